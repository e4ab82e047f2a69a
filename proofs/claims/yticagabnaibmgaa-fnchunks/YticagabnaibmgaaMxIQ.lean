/- The contracts of takenLines and of mergedText. No statement is proved here. -/
import Derived.Test.YticagabnaibmgaaRows
import Derived.Test.YticagabnaibmgaaLemQ
import Derived.Test.YticagabnaibmgaaDTabQ
import Derived.Test.YticagabnaibmgaaHkTQ
import Derived.Test.YticagabnaibmgaaCkLQ
import Derived.Test.YticagabnaibmgaaCkCQ
import Derived.Test.YticagabnaibmgaaCkBQ
import Derived.Test.YticagabnaibmgaaCtLQ
import Derived.Test.YticagabnaibmgaaCtTQ
import Derived.Test.YticagabnaibmgaaCtCQ
import Derived.Test.YticagabnaibmgaaCtVQ
import Derived.WalkKit
import Derived.ProofKit
import Derived.Below
import Derived.WalkSpells
import Derived.Deep.QuietTactic
import Derived.BigQuiet
import Derived.Test.YticagabnaibmgaaLFLemQ
import Derived.Test.YticagabnaibmgaaKpDQ
import Derived.Test.YticagabnaibmgaaKpJQ
namespace Go.Proofs.Yticagabnaibmgaa
open Go.ChangeShapes Go.WideShapes Go.ChangeAt Go.RowKit

theorem ret_val {v u : Value} (h : v = u) : Ending.returned v = .returned u := by rw [h]
set_option maxHeartbeats 1000000 in
theorem takenLines (x0 : Int) (a1 a2 a3 : Option Addr) (n1 n2 n3 c1 c2 c3 : Nat) (w : World) :
    Calls Try.prog 80 #[.agg #[.int .i64 x0, .slice a1 n1 c1, .slice a2 n2 c2, .slice a3 n3 c3]] w fun e w' => e = .returned (if x0 = 2 then .slice a3 n3 c3 else .slice a2 n2 c2) ∧ Below w.heap.size w w' := by
  have bW := allocBelow w (.cells #[.int .i64 x0, .slice a1 n1 c1, .slice a2 n2 c2, .slice a3 n3 c3] 38)
  by_cases e : x0 = 2
  · subst e
    go_enter Try.func80, Try.ntmps80
    go_wp2
    go_ret
    exact ⟨rfl, bW⟩
  · have q : (x0 == 2) = false := by simp [e]
    have HE : Hid ((if x0 = 2 then Value.slice a3 n3 c3 else .slice a2 n2 c2) = .slice a2 n2 c2) := if_neg e
    go_enter Try.func80, Try.ntmps80
    go_wp2
    go_ret
    first | exact ⟨rfl, bW⟩ | exact ⟨ret_val HE.out.symm, bW⟩
/-- Chunks whose text can be made. -/
structure Mx (l : List Ck) : Prop where
  each : ∀ c ∈ l, c.2.1.length ≤ 1048576 ∧ c.2.2.1.length ≤ 1048576 ∧ c.2.2.2.length ≤ 1048576 ∧ tot c.2.1 ≤ 1048576 ∧ tot c.2.2.1 ≤ 1048576 ∧ tot c.2.2.2 ≤ 1048576 ∧ (c.1 = 4 → ctOK c.1 c.2.1 c.2.2.1 c.2.2.2 = true)
  whole : tot (ptsA l) + (ptsA l).length ≤ 100000000
theorem atF_bel {T e : TypeId} {B b : Nat} {p : Value} {bs : List Value} {w w' : World} (h : Lib.BuilderAtF T e B b p bs w) (hb : Below w.heap.size w w') : Lib.BuilderAtF T e B b p bs w' := by
  have hlt := h.lt
  obtain ⟨hB, v, hbk, hown, hne⟩ := h
  exact ⟨hB, v, (hb.block b hlt).trans hbk, hown.kept (grownOfBelow hb none) (by cases hv : v.ownBlock <;> simp), hne⟩
theorem BF.bel {B b : Nat} {l : List UInt8} {w w' : World} (h : BF B b l w) (hb : Below w.heap.size w w') : BF B b l w' := h.elim (fun x => .inl (atF_bel x hb)) (fun x => .inr (atF_bel x hb))
theorem KB.belowAt {B : Nat} {w w' : World} {a : Option Addr} {l : List Ck} (h : KB B w a l) (hb : Below B w w') : KB B w' a l := fun k hk => by
  obtain ⟨g, off, a1, c1, a2, c2, a3, c3, e, hg, d0, d1, d2, d3, s1, s2, s3⟩ := h k hk
  have key : ∀ {a : Option Addr} {c : Nat} {ss : List ByteArray}, SSN B w a c ss → SSN B w' a c ss := fun {a c ss} hs => ⟨⟨hs.1.1, fun j hj => by obtain ⟨b', o, e, hl, hc⟩ := hs.1.2 j hj; exact ⟨b', o, e, hl, (hb.cell (p := ⟨b', o + j, none⟩) hl).trans hc⟩⟩, hs.2⟩
  exact ⟨g, off, a1, c1, a2, c2, a3, c3, e, hg, (hb.cell (p := ⟨g, off + k * 4, none⟩) hg).trans d0, (hb.cell (p := ⟨g, off + k * 4 + 1, none⟩) hg).trans d1, (hb.cell (p := ⟨g, off + k * 4 + 2, none⟩) hg).trans d2, (hb.cell (p := ⟨g, off + k * 4 + 3, none⟩) hg).trans d3, key s1, key s2, key s3⟩
set_option maxRecDepth 20000 in
set_option maxHeartbeats 4000000 in
theorem mergedText (a : Option Addr) (c : Nat) (l : List Ck) (w : World) (h : KB w.heap.size w a l) (hn : l.length ≤ 1048576) (hM : Mx l) :
    Calls Try.prog 46 #[.slice a l.length c] w fun e w' => e = .returned (.string ⟨(putP [] (ptsA l)).toArray⟩) ∧ Below w.heap.size w w' := by
  obtain ⟨W0, hW0⟩ : ∃ W, w.alloc (.cells #[.pointer none, .slice none 0 0] 128) = W := ⟨_, rfl⟩
  have hBF : BF w.heap.size w.heap.size [] W0 := by rw [← hW0]; exact Lib.IsBuilderF.of (Lib.fresh_isBuilder 128 5 w)
  have b0 : Below w.heap.size w W0 := by rw [← hW0]; exact allocBelow _ _
  have hsz : ∀ k, k ≤ l.length → ((putP [] (ptsA (l.take k))).length : Int) ≤ tot (ptsA (l.take k)) + (ptsA (l.take k)).length := fun k _ => by have := putP_le [] (ptsA (l.take k)); simpa using this
  have hsp : ∀ k, k < l.length → tot (ptsA (l.take k)) + (ptsA (l.take k)).length + tot (pts (l.getD k cnil)) + (pts (l.getD k cnil)).length ≤ 100000000 := fun k hk => by
    have h1 := hM.whole
    have e : ptsA l = ptsA (l.take k) ++ (pts (l.getD k cnil) ++ ptsA (l.drop (k + 1))) := by
      have := ck_drop l k hk
      unfold ptsA
      rw [← List.flatMap_cons, ← this, ← List.flatMap_append, List.take_append_drop]
    have t1 := tot_split (ptsA l) (ptsA (l.take k)).length
    rw [e, List.take_left, List.drop_left] at t1
    have t2 := tot_split (pts (l.getD k cnil) ++ ptsA (l.drop (k + 1))) (pts (l.getD k cnil)).length
    rw [List.take_left, List.drop_left] at t2
    have t3 := tot_nonneg (ptsA (l.drop (k + 1)))
    rw [e] at h1
    simp only [List.length_append] at h1
    omega
  have hstep : ∀ k, k < l.length → Hid (putP [] (ptsA (l.take (k + 1))) = putP (putP [] (ptsA (l.take k))) (pts (l.getD k cnil))) := fun k hk => by show _ = _; rw [ptsA_take l k hk, putP_app]
  go_enter Try.func46, Try.ntmps46
  go_wp2
  go_loopw [5, 8] (fun _ i wr => ∃ k : Nat, k ≤ l.length ∧ i = .int .i64 k ∧ BF w.heap.size w.heap.size (putP [] (ptsA (l.take k))) wr ∧ Below w.heap.size w wr ∧ w.heap.size < wr.heap.size) (fun _ i _ => l.length - (intOf i).toNat)
  case atStart => exact ⟨0, Nat.zero_le _, rfl, hBF, b0, by rw [← hW0]; simp⟩
  case round =>
    clear hBF b0 hW0
    obtain ⟨k, hk, rfl, hB, hbel, hlt0⟩ := hrel
    by_cases hlt : k < l.length
    · have q : (k : Int) < (l.length : Int) := by omega
      have hsk := hsz k hk
      have hspk := hsp k hlt
      have hst := hstep k hlt
      have hE := hM.each _ (ck_mem l k hlt)
      obtain ⟨g, off, a1, c1, a2, c2, a3, c3, e, hg, d0, d1, d2, d3, s1, s2, s3⟩ := h.belowAt hbel k hlt
      subst e
      obtain ⟨C, hC⟩ : ∃ C, l.getD k cnil = C := ⟨_, rfl⟩
      obtain ⟨x0, x1, x2, x3⟩ := C
      rw [hC] at d0 d1 d2 d3 s1 s2 s3 hE hspk hst
      simp only [] at d0 d1 d2 d3 s1 s2 s3 hE
      obtain ⟨P, hP⟩ : ∃ P, putP [] (ptsA (l.take k)) = P := ⟨_, rfl⟩
      rw [hP] at hB hsk hst
      obtain ⟨V, hV⟩ : ∃ V, wr.alloc (.cells #[.int .i64 x0, .slice a1 x1.length c1, .slice a2 x2.length c2, .slice a3 x3.length c3] 38) = V := ⟨_, rfl⟩
      have bV : Below wr.heap.size wr V := by rw [← hV]; exact allocBelow _ _
      have rV : Rs V wr.heap.size [.int .i64 x0, .slice a1 x1.length c1, .slice a2 x2.length c2, .slice a3 x3.length c3] := by rw [← hV]; exact Rs.new _ _ _
      have e0 := rV 0 _ rfl
      have e1 := rV 1 _ rfl
      have e2 := rV 2 _ rfl
      have e3 := rV 3 _ rfl
      have sV := bV.size
      have hBV := hB.bel bV
      have belV := below_step hbel (by omega) bV
      have hsw : w.heap.size ≤ wr.heap.size := by omega
      obtain ⟨m1, m2, m3, t1, t2, t3, hok⟩ := hE
      have u1 := (s1.1.below bV)
      have u2 := (s2.1.below bV)
      have u3 := (s3.1.below bV)
      clear rV hC hP hsz hsp hstep
      by_cases h4 : x0 = 4
      · have hpt : pts (x0, x1, x2, x3) = [clashB x1 x2 x3] := if_pos h4
        rw [hpt] at hspk hst
        have hct : ctT x0 x1 x2 x3 = clashB x1 x2 x3 := if_pos (hok h4)
        have hCT := fun W b => implClashText x0 a1 a2 a3 c1 c2 c3 x1 x2 x3 W ((u1.below b).toSS (by have := Below.size b; omega)) ((u2.below b).toSS (by have := Below.size b; omega)) ((u3.below b).toSS (by have := Below.size b; omega)) m1 m2 m3 t1 t2 t3
        have hCV := hCT V (Below.refl _ _)
        rw [hct] at hCV
        subst h4
        generalize clashB x1 x2 x3 = X at hCV hspk hst hct
        generalize ctC 4 x1 x2 x3 = Z at hCV
        have hfld : ∀ w, (Instr.field 131 (.agg #[.int .i64 Z, .string X]) 1).run Try.prog w = .ok (.string X) w := fun _ => by kernel_rfl
        clear hCT hct hok
        go_wp2_with fail
        refine hCV.mono ?_; rintro e w2 ⟨rfl, b2⟩
        have hB2 := hBV.bel b2
        have s2' := b2.size
        have tn := tot_nonneg (ptsA (l.take k))
        have hXs : X.size ≤ 9223372036854775807 := by
          have hx : tot [X] = (X.size : Int) := by simp [tot]
          rw [hx] at hspk
          omega
        have hw1 := writePart1 w.heap.size w.heap.size P (some ⟨w2.heap.size, 0, none⟩) 1 [X] (w2.alloc (.cells #[.string X] 9)) (hB2.alloc _) (oneSS w2 X 9 hXs) rfl (by simp; omega) (by simp) (by omega)
        have bel2 := below_step belV (by omega) b2
        clear hCV e0 e1 e2 e3 hV d0 d1 d2 d3
        go_wp2_with fail
        refine hw1.mono ?_; rintro e w3 ⟨rfl, F3, b3⟩
        rw [← hst.out] at F3
        have HB : Hid (Below w.heap.size w w3) := (bel2.alloc (by omega) _).trans b3
        have HS : Hid (w.heap.size < w3.heap.size) := by have := b3.size; simp at this; show _ < _; omega
        clear hw1 b3 bel2 hB2 hBV
        go_wp2
        go_roundw
        case rel => exact ⟨k + 1, by omega, by go_num, F3, HB.out, HS.out⟩
        case measure => first | (simp [intOf]; omega) | simp [intOf]
      · have q4 : (x0 == 4) = false := by simp [h4]
        have hTk := takenLines x0 a1 a2 a3 x1.length x2.length x3.length c1 c2 c3 V
        obtain ⟨ta, tc, ss, hte, hpt, hts, htn⟩ : ∃ (ta : Option Addr) (tc : Nat) (ss : List ByteArray), (if x0 = 2 then Value.slice a3 x3.length c3 else .slice a2 x2.length c2) = .slice ta ss.length tc ∧ pts (x0, x1, x2, x3) = ss ∧ SSB w.heap.size V ta ss ∧ ss.length ≤ 1048576 := by
          unfold pts
          rw [if_neg h4]
          by_cases h2 : x0 = 2
          · rw [if_pos h2, if_pos h2]; exact ⟨a3, c3, x3, rfl, rfl, u3, m3⟩
          · rw [if_neg h2, if_neg h2]; exact ⟨a2, c2, x2, rfl, rfl, u2, m2⟩
        rw [hte] at hTk
        rw [hpt] at hspk hst
        clear hte hpt hok
        go_wp2_with fail
        refine hTk.mono ?_; rintro e w2 ⟨rfl, b2⟩
        have hB2 := hBV.bel b2
        have s2' := b2.size
        have hw1 := writeParts w.heap.size w.heap.size P ta tc ss w2 hB2 (hts.below b2) (by omega) htn (by omega)
        have bel2 := below_step belV (by omega) b2
        clear hTk e0 e1 e2 e3 hV d0 d1 d2 d3
        go_wp2_with fail
        refine hw1.mono ?_; rintro e w3 ⟨rfl, F3, b3⟩
        rw [← hst.out] at F3
        have HB : Hid (Below w.heap.size w w3) := bel2.trans b3
        have HS : Hid (w.heap.size < w3.heap.size) := by have := b3.size; show _ < _; omega
        clear hw1 b3 bel2 hB2 hBV
        go_wp2
        go_roundw
        case rel => exact ⟨k + 1, by omega, by go_num, F3, HB.out, HS.out⟩
        case measure => first | (simp [intOf]; omega) | simp [intOf]
    · have q : ¬ (k : Int) < (l.length : Int) := by omega
      rw [List.take_of_length_le (by omega)] at hB
      have hS := bString w.heap.size w.heap.size (putP [] (ptsA l)) wr hB (by omega)
      clear hsz hsp hstep
      go_wp2_with fail
      refine hS.mono ?_; rintro e w3 ⟨rfl, _, b3⟩
      have HB := hbel.trans b3
      clear hS b3
      go_wp2
      go_ret
      exact ⟨rfl, HB⟩
end Go.Proofs.Yticagabnaibmgaa
/- The chunks of three right lists have a text that can be made (what mergedText and l4Merge ask). Plain mathematics. No statement is proved here. -/
namespace Go.Proofs.Yticagabnaibmgaa
open Go.ChangeShapes Go.WideShapes Go.ChangeAt Go.RowKit

theorem okLine_any {l : List UInt8} {b : Bool} (h : okLine l b = true) : okLine l true = true := by
  unfold okLine at h ⊢
  split at h
  · exact absurd h (by decide)
  · rename_i h1
    rw [if_neg h1]
    split at h
    · rename_i h2; rw [if_pos h2]
    · rename_i h2; rw [if_neg h2]; exact h
theorem lf_wh {ss : List ByteArray} (h : lf ss = 0) : wh ss = true := by
  have h1 : ¬ (100 < (ss.length : Int) ∨ 2000 < tot ss) := fun e => by rw [lf_many e] at h; exact absurd h (by decide)
  unfold wh
  rw [List.all_eq_true]
  intro s hs
  obtain ⟨k, hk, rfl⟩ := List.getElem_of_mem hs
  cases e : okAt ss k with
  | false => rw [lf_form h1 hk e] at h; exact absurd h (by decide)
  | true =>
    unfold okAt at e
    rw [List.getD, List.getElem?_eq_getElem hk] at e
    exact okLine_any e
theorem wh_sub {xs ys : List ByteArray} (h : wh xs = true) (hs : ∀ s ∈ ys, s ∈ xs) : wh ys = true := by
  unfold wh at h ⊢
  rw [List.all_eq_true] at h ⊢
  exact fun s m => h s (hs s m)
theorem tot_sg (xs : List ByteArray) (i j : Nat) : tot (sgK xs i j) ≤ tot xs := by
  unfold sgK
  have h1 := tot_split xs i
  have h2 := tot_split (xs.drop i) (j - i)
  have h3 := tot_nonneg (xs.take i)
  have h4 := tot_nonneg ((xs.drop i).drop (j - i))
  omega
/-- A chunk of the three, told by its pieces. -/
theorem ckT_parts {x1 x2 x3 : List ByteArray} {c : Ck} (h : c ∈ ckT x1 x2 x3) : c.1 = kd c.2.1 c.2.2.1 c.2.2.2 ∧ tot c.2.1 ≤ tot x1 ∧ tot c.2.2.1 ≤ tot x2 ∧ tot c.2.2.2 ≤ tot x3 := by
  unfold ckT at h
  obtain ⟨s, _, hc⟩ := List.mem_flatMap.1 h
  unfold ptK putK at hc
  split at hc
  · cases hc
  · rw [List.mem_singleton] at hc
    subst hc
    exact ⟨rfl, tot_sg .., tot_sg .., tot_sg ..⟩
theorem clash_size (b o t : List ByteArray) : ((clashB b o t).size : Int) ≤ tot b + tot o + tot t + b.length + o.length + t.length + 32 := by
  have h1 : (clashB b o t).size = (clashL b o t).length := by simp [clashB, ByteArray.size]
  have h3 := endAll_le b
  have h5 := endAll_le o
  have h6 := endAll_le t
  have q1 : h1L.length = 8 := rfl
  have q2 : h2L.length = 8 := rfl
  have q3 : h3L.length = 8 := rfl
  have q4 : h4L.length = 8 := rfl
  rw [h1]
  unfold clashL
  simp only [List.length_append]
  omega
theorem pts_bd {c : Ck} (h1 : c.2.1.length ≤ 100) (h2 : c.2.2.1.length ≤ 100) (h3 : c.2.2.2.length ≤ 100) (t1 : tot c.2.1 ≤ 2000) (t2 : tot c.2.2.1 ≤ 2000) (t3 : tot c.2.2.2 ≤ 2000) : tot (pts c) ≤ 7000 ∧ (pts c).length ≤ 100 := by
  unfold pts
  split
  · have := clash_size c.2.1 c.2.2.1 c.2.2.2
    refine ⟨?_, by simp⟩
    have e : tot [clashB c.2.1 c.2.2.1 c.2.2.2] = ((clashB c.2.1 c.2.2.1 c.2.2.2).size : Int) := by simp [tot]
    rw [e]
    omega
  · split
    · exact ⟨by omega, h3⟩
    · exact ⟨by omega, h2⟩
theorem ptsA_bd : ∀ (l : List Ck), (∀ c ∈ l, tot (pts c) ≤ 7000 ∧ (pts c).length ≤ 100) → tot (ptsA l) ≤ 7000 * l.length ∧ (ptsA l).length ≤ 100 * l.length := by
  intro l
  induction l with
  | nil => intro _; exact ⟨Int.le_refl _, Nat.le_refl _⟩
  | cons c l ih =>
    intro h
    have h1 := h c (List.mem_cons_self ..)
    have h2 := ih (fun d hd => h d (List.mem_cons_of_mem _ hd))
    have e : ptsA (c :: l) = pts c ++ ptsA l := List.flatMap_cons ..
    rw [e, tot_app, List.length_append, List.length_cons]
    constructor
    · push_cast; omega
    · omega
structure MxOK (x1 x2 x3 : List ByteArray) : Prop where
  mx : Mx (ckT x1 x2 x3)
  few : (ptsA (ckT x1 x2 x3)).length ≤ 1000000
  full : ∀ s ∈ ptsA (ckT x1 x2 x3), s.data.toList ≠ []
  short : (ckT x1 x2 x3).length ≤ 201
theorem mxOK {x1 x2 x3 : List ByteArray} (l1 : lf x1 = 0) (l2 : lf x2 = 0) (l3 : lf x3 = 0) : MxOK x1 x2 x3 := by
  have b1 := lf_bd l1
  have b2 := lf_bd l2
  have b3 := lf_bd l3
  have w1 := lf_wh l1
  have w2 := lf_wh l2
  have w3 := lf_wh l3
  have hlen : (ckT x1 x2 x3).length ≤ 201 := by have := ckT_len x1 x2 x3; omega
  have hA := ptsA_bd (ckT x1 x2 x3) (fun c hc => by
    have m := ckT_mem hc
    have p := ckT_parts hc
    exact pts_bd (by omega) (by omega) (by omega) (by omega) (by omega) (by omega))
  refine ⟨⟨fun c hc => ?_, by omega⟩, by omega, fun s hs => ?_, hlen⟩
  · have m := ckT_mem hc
    have p := ckT_parts hc
    refine ⟨by omega, by omega, by omega, by omega, by omega, by omega, fun h4 => ?_⟩
    unfold ctOK
    rw [wh_sub w1 m.1, wh_sub w2 m.2.1, wh_sub w3 m.2.2.1, decide_eq_true h4, decide_eq_true (p.1.symm.trans h4)]
    rfl
  · unfold ptsA at hs
    obtain ⟨c, hc, hm⟩ := List.mem_flatMap.1 hs
    have m := ckT_mem hc
    unfold pts at hm
    split at hm
    · rw [List.mem_singleton] at hm
      subst hm
      unfold clashB clashL h1L
      simp
    · split at hm
      · exact wh_pos w3 s (m.2.2.1 s hm)
      · exact wh_pos w2 s (m.2.1 s hm)
/-- The text of a merge, the same on both sides. -/
def mgB (x1 x2 x3 : List ByteArray) : ByteArray := ⟨(jnF (ptsA (ckT x1 x2 x3))).toArray⟩
theorem mg_put {x1 x2 x3 : List ByteArray} (h : MxOK x1 x2 x3) : (⟨(putP [] (ptsA (ckT x1 x2 x3))).toArray⟩ : ByteArray) = mgB x1 x2 x3 := by
  unfold mgB
  rw [putP_join _ h.full]
end Go.Proofs.Yticagabnaibmgaa
