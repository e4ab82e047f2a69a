/- The contracts of takenLines and of mergedText. No statement is proved here. -/
import Derived.Test.YtcfnkndbhpdfnaaGreatDoorCtTQ
import Derived.Test.YtcfnkndbhpdfnaaGreatDoorKpJQ
namespace Go.Proofs.YtcfnkndbhpdfnaaGreatDoor
open Go.ChangeShapes Go.WideShapes Go.ChangeAt Go.RowKit
set_option maxHeartbeats 1000000 in
theorem takenLines (x0 : Int) (a1 a2 a3 : Option Addr) (n1 n2 n3 c1 c2 c3 : Nat) (w : World) :
  Calls Tryz.prog 161 #[.agg #[.int .i64 x0, .slice a1 n1 c1, .slice a2 n2 c2, .slice a3 n3 c3]] w fun e w' => e = .returned (if x0 = 2 then .slice a3 n3 c3 else .slice a2 n2 c2) /\ Below w.heap.size w w' := by
 have bW := allocBelow w (.cells #[.int .i64 x0, .slice a1 n1 c1, .slice a2 n2 c2, .slice a3 n3 c3] 162)
 by_cases e : x0 = 2
 ·subst e
  go_enter Tryz.func161, Tryz.ntmps161
  go_wp2
  go_ret
  exact ⟨rfl, bW⟩
 ·have q : (x0 == 2) = false := by simp [e]
  have HE : Hid ((if x0 = 2 then Value.slice a3 n3 c3 else .slice a2 n2 c2) = .slice a2 n2 c2) := if_neg e
  go_enter Tryz.func161, Tryz.ntmps161
  go_wp2
  go_ret
  first | exact ⟨rfl, bW⟩ | exact ⟨ret_val HE.out.symm, bW⟩
structure Mx (l : List Ck) : Prop where
 each : ∀ c ∈ l, c.2.1.length <= 1048576 /\ c.2.2.1.length <= 1048576 /\ c.2.2.2.length <= 1048576 /\ tot c.2.1 <= 1048576 /\ tot c.2.2.1 <= 1048576 /\ tot c.2.2.2 <= 1048576 /\ (c.1 = 4 -> ctOK c.1 c.2.1 c.2.2.1 c.2.2.2 = true)
 whole : tot (ptsA l) + (ptsA l).length <= 100000000
theorem atF_bel {T e : TypeId} {B b : Nat} {p : Value} {bs : List Value} {w w' : World} (h : Lib.BuilderAtF T e B b p bs w) (hb : Below w.heap.size w w') : Lib.BuilderAtF T e B b p bs w' := by
 have hlt := h.lt
 obtain ⟨hB, v, hbk, hown, hne⟩ := h
 exact ⟨hB, v, (hb.block b hlt).trans hbk, hown.kept (grownOfBelow hb none) (by cases hv : v.ownBlock <;> simp), hne⟩
theorem BF.bel {B b : Nat} {l : List UInt8} {w w' : World} (h : BF B b l w) (hb : Below w.heap.size w w') : BF B b l w' := h.elim (fun x => .inl (atF_bel x hb)) (fun x => .inr (atF_bel x hb))
theorem KB.belowAt {B : Nat} {w w' : World} {a : Option Addr} {l : List Ck} (h : KB B w a l) (hb : Below B w w') : KB B w' a l := fun k hk => by
 obtain ⟨g, off, a1, c1, a2, c2, a3, c3, e, hg, d0, d1, d2, d3, s1, s2, s3⟩ := h k hk
 have key : ∀ {a : Option Addr} {c : Nat} {ss : List ByteArray}, SSN B w a c ss -> SSN B w' a c ss := fun {a c ss} hs => ⟨⟨hs.1.1, fun j hj => by obtain ⟨b', o, e, hl, hc⟩ := hs.1.2 j hj; exact ⟨b', o, e, hl, (hb.cell (p := ⟨b', o + j, none⟩) hl).trans hc⟩⟩, hs.2⟩
 exact ⟨g, off, a1, c1, a2, c2, a3, c3, e, hg, (hb.cell (p := ⟨g, off + k * 4, none⟩) hg).trans d0, (hb.cell (p := ⟨g, off + k * 4 + 1, none⟩) hg).trans d1, (hb.cell (p := ⟨g, off + k * 4 + 2, none⟩) hg).trans d2, (hb.cell (p := ⟨g, off + k * 4 + 3, none⟩) hg).trans d3, key s1, key s2, key s3⟩
set_option maxRecDepth 20000 in
set_option maxHeartbeats 4000000 in
theorem mergedText (a : Option Addr) (c : Nat) (l : List Ck) (w : World) (h : KB w.heap.size w a l) (hn : l.length <= 1048576) (hM : Mx l) :
  Calls Tryz.prog 134 #[.slice a l.length c] w fun e w' => e = .returned (.string ⟨(putP [] (ptsA l)).toArray⟩) /\ Below w.heap.size w w' := by
 obtain ⟨W0, hW0⟩ : ∃ W, w.alloc (.cells #[.pointer none, .slice none 0 0] 203) = W := ⟨_, rfl⟩
 have hBF : BF w.heap.size w.heap.size [] W0 := by rw [<- hW0]; exact Lib.IsBuilderF.of (Lib.fresh_isBuilder 203 5 w)
 have b0 : Below w.heap.size w W0 := by rw [<- hW0]; exact allocBelow _ _
 have hsz : ∀ k, k <= l.length -> ((putP [] (ptsA (l.take k))).length : Int) <= tot (ptsA (l.take k)) + (ptsA (l.take k)).length := fun k _ => by have := putP_le [] (ptsA (l.take k)); simpa using this
 have hsp : ∀ k, k < l.length -> tot (ptsA (l.take k)) + (ptsA (l.take k)).length + tot (pts (l.getD k cnil)) + (pts (l.getD k cnil)).length <= 100000000 := fun k hk => by
  have h1 := hM.whole
  have e : ptsA l = ptsA (l.take k) ++ (pts (l.getD k cnil) ++ ptsA (l.drop (k + 1))) := by
   have := ck_drop l k hk
   unfold ptsA
   rw [<- List.flatMap_cons, <- this, <- List.flatMap_append, List.take_append_drop]
  have t1 := tot_split (ptsA l) (ptsA (l.take k)).length
  rw [e, List.take_left, List.drop_left] at t1
  have t2 := tot_split (pts (l.getD k cnil) ++ ptsA (l.drop (k + 1))) (pts (l.getD k cnil)).length
  rw [List.take_left, List.drop_left] at t2
  have t3 := tot_nonneg (ptsA (l.drop (k + 1)))
  rw [e] at h1
  simp only [List.length_append] at h1
  omega
 have hstep : ∀ k, k < l.length -> Hid (putP [] (ptsA (l.take (k + 1))) = putP (putP [] (ptsA (l.take k))) (pts (l.getD k cnil))) := fun k hk => by show _ = _; rw [ptsA_take l k hk, putP_app]
 go_enter Tryz.func134, Tryz.ntmps134
 go_wp2
 go_loopw [5, 8] (fun _ i wr => ∃ k : Nat, k <= l.length /\ i = .int .i64 k /\ BF w.heap.size w.heap.size (putP [] (ptsA (l.take k))) wr /\ Below w.heap.size w wr /\ w.heap.size < wr.heap.size) (fun _ i _ => l.length - (intOf i).toNat)
 case atStart => exact ⟨0, Nat.zero_le _, rfl, hBF, b0, by rw [<- hW0]; simp⟩
 case round =>
  clear hBF b0 hW0
  obtain ⟨k, hk, rfl, hB, hbel, hlt0⟩ := hrel
  by_cases hlt : k < l.length
  ·have q : (k : Int) < (l.length : Int) := by omega
   have hsk := hsz k hk
   have hspk := hsp k hlt
   have hst := hstep k hlt
   have hE := hM.each _ (ck_mem l k hlt)
   obtain ⟨g, off, a1, c1, a2, c2, a3, c3, e, hg, d0, d1, d2, d3, s1, s2, s3⟩ := h.belowAt hbel k hlt
   subst e
   obtain ⟨C, hC⟩ : ∃ C, l.getD k cnil = C := ⟨_, rfl⟩
   obtain ⟨x0, x1, x2, x3⟩ := C
   rw [hC] at d0 d1 d2 d3 s1 s2 s3 hE hspk hst
   simp only [] at d0 d1 d2 d3 s1 s2 s3 hE
   obtain ⟨P, hP⟩ : ∃ P, putP [] (ptsA (l.take k)) = P := ⟨_, rfl⟩
   rw [hP] at hB hsk hst
   obtain ⟨V, hV⟩ : ∃ V, wr.alloc (.cells #[.int .i64 x0, .slice a1 x1.length c1, .slice a2 x2.length c2, .slice a3 x3.length c3] 162) = V := ⟨_, rfl⟩
   have bV : Below wr.heap.size wr V := by rw [<- hV]; exact allocBelow _ _
   have rV : Rs V wr.heap.size [.int .i64 x0, .slice a1 x1.length c1, .slice a2 x2.length c2, .slice a3 x3.length c3] := by rw [<- hV]; exact Rs.new _ _ _
   have e0 := rV 0 _ rfl
   have e1 := rV 1 _ rfl
   have e2 := rV 2 _ rfl
   have e3 := rV 3 _ rfl
   have sV := bV.size
   have hBV := hB.bel bV
   have belV := below_step hbel (by omega) bV
   have hsw : w.heap.size <= wr.heap.size := by omega
   obtain ⟨m1, m2, m3, t1, t2, t3, hok⟩ := hE
   have u1 := (s1.1.below bV)
   have u2 := (s2.1.below bV)
   have u3 := (s3.1.below bV)
   clear rV hC hP hsz hsp hstep
   by_cases h4 : x0 = 4
   ·have hpt : pts (x0, x1, x2, x3) = [clashB x1 x2 x3] := if_pos h4
    rw [hpt] at hspk hst
    have hct : ctT x0 x1 x2 x3 = clashB x1 x2 x3 := if_pos (hok h4)
    have hCT := fun W b => implClashText x0 a1 a2 a3 c1 c2 c3 x1 x2 x3 W ((u1.below b).toSS (by have := Below.size b; omega)) ((u2.below b).toSS (by have := Below.size b; omega)) ((u3.below b).toSS (by have := Below.size b; omega)) m1 m2 m3 t1 t2 t3
    have hCV := hCT V (Below.refl _ _)
    rw [hct] at hCV
    subst h4
    generalize clashB x1 x2 x3 = X at hCV hspk hst hct
    generalize ctC 4 x1 x2 x3 = Z at hCV
    have hfld : ∀ w, (Instr.field 73 (.agg #[.int .i64 Z, .string X]) 1).run Tryz.prog w = .ok (.string X) w := fun _ => by kernel_rfl
    clear hCT hct hok
    go_wp2_with fail
    refine hCV.mono ?_; rintro e w2 ⟨rfl, b2⟩
    have hB2 := hBV.bel b2
    have s2' := b2.size
    have tn := tot_nonneg (ptsA (l.take k))
    have hXs : X.size <= 9223372036854775807 := by
     have hx : tot [X] = (X.size : Int) := by simp [tot]
     rw [hx] at hspk
     omega
    have hw1 := writePart1 w.heap.size w.heap.size P (some ⟨w2.heap.size, 0, none⟩) 1 [X] (w2.alloc (.cells #[.string X] 9)) (hB2.alloc _) (oneSS w2 X 9 hXs) rfl (by simp; omega) (by simp) (by omega)
    have bel2 := below_step belV (by omega) b2
    clear hCV e0 e1 e2 e3 hV d0 d1 d2 d3
    go_wp2_with fail
    refine hw1.mono ?_; rintro e w3 ⟨rfl, F3, b3⟩
    rw [<- hst.out] at F3
    have HB : Hid (Below w.heap.size w w3) := (bel2.alloc (by omega) _).trans b3
    have HS : Hid (w.heap.size < w3.heap.size) := by have := b3.size; simp at this; show _ < _; omega
    clear hw1 b3 bel2 hB2 hBV
    go_wp2
    go_roundw
    case rel => exact ⟨k + 1, by omega, by go_num, F3, HB.out, HS.out⟩
    case measure => first | (simp [intOf]; omega) | simp [intOf]
   ·have q4 : (x0 == 4) = false := by simp [h4]
    have hTk := takenLines x0 a1 a2 a3 x1.length x2.length x3.length c1 c2 c3 V
    obtain ⟨ta, tc, ss, hte, hpt, hts, htn⟩ : ∃ (ta : Option Addr) (tc : Nat) (ss : List ByteArray), (if x0 = 2 then Value.slice a3 x3.length c3 else .slice a2 x2.length c2) = .slice ta ss.length tc /\ pts (x0, x1, x2, x3) = ss /\ SSB w.heap.size V ta ss /\ ss.length <= 1048576 := by
     unfold pts
     rw [if_neg h4]
     by_cases h2 : x0 = 2
     ·rw [if_pos h2, if_pos h2]; exact ⟨a3, c3, x3, rfl, rfl, u3, m3⟩
     ·rw [if_neg h2, if_neg h2]; exact ⟨a2, c2, x2, rfl, rfl, u2, m2⟩
    rw [hte] at hTk
    rw [hpt] at hspk hst
    clear hte hpt hok
    go_wp2_with fail
    refine hTk.mono ?_; rintro e w2 ⟨rfl, b2⟩
    have hB2 := hBV.bel b2
    have s2' := b2.size
    have hw1 := writeParts w.heap.size w.heap.size P ta tc ss w2 hB2 (hts.below b2) (by omega) htn (by omega)
    have bel2 := below_step belV (by omega) b2
    clear hTk e0 e1 e2 e3 hV d0 d1 d2 d3
    go_wp2_with fail
    refine hw1.mono ?_; rintro e w3 ⟨rfl, F3, b3⟩
    rw [<- hst.out] at F3
    have HB : Hid (Below w.heap.size w w3) := bel2.trans b3
    have HS : Hid (w.heap.size < w3.heap.size) := by have := b3.size; show _ < _; omega
    clear hw1 b3 bel2 hB2 hBV
    go_wp2
    go_roundw
    case rel => exact ⟨k + 1, by omega, by go_num, F3, HB.out, HS.out⟩
    case measure => first | (simp [intOf]; omega) | simp [intOf]
  ·have q : ¬ (k : Int) < (l.length : Int) := by omega
   rw [List.take_of_length_le (by omega)] at hB
   have hS := bString w.heap.size w.heap.size (putP [] (ptsA l)) wr hB (by omega)
   clear hsz hsp hstep
   go_wp2_with fail
   refine hS.mono ?_; rintro e w3 ⟨rfl, _, b3⟩
   have HB := hbel.trans b3
   clear hS b3
   go_wp2
   go_ret
   exact ⟨rfl, HB⟩
end Go.Proofs.YtcfnkndbhpdfnaaGreatDoor
namespace Go.Proofs.YtcfnkndbhpdfnaaGreatDoor
open Go.ChangeShapes Go.WideShapes Go.ChangeAt Go.RowKit
theorem okLine_any {l : List UInt8} {b : Bool} (h : okLine l b = true) : okLine l true = true := by
 unfold okLine at h ⊢
 split at h
 ·exact absurd h (by decide)
 ·rename_i h1
  rw [if_neg h1]
  split at h
  ·rename_i h2; rw [if_pos h2]
  ·rename_i h2; rw [if_neg h2]; exact h
theorem lf_wh {ss : List ByteArray} (h : lf ss = 0) : wh ss = true := by
 have h1 : ¬ (100 < (ss.length : Int) \/ 2000 < tot ss) := fun e => by rw [lf_many e] at h; exact absurd h (by decide)
 unfold wh
 rw [List.all_eq_true]
 intro s hs
 obtain ⟨k, hk, rfl⟩ := List.getElem_of_mem hs
 cases e : okAt ss k with
 | false => rw [lf_form h1 hk e] at h; exact absurd h (by decide)
 | true =>
  unfold okAt at e
  rw [List.getD, List.getElem?_eq_getElem hk] at e
  exact okLine_any e
theorem wh_sub {xs ys : List ByteArray} (h : wh xs = true) (hs : ∀ s ∈ ys, s ∈ xs) : wh ys = true := by
 unfold wh at h ⊢
 rw [List.all_eq_true] at h ⊢
 exact fun s m => h s (hs s m)
theorem tot_sg (xs : List ByteArray) (i j : Nat) : tot (sgK xs i j) <= tot xs := by
 unfold sgK
 have h1 := tot_split xs i
 have h2 := tot_split (xs.drop i) (j - i)
 have h3 := tot_nonneg (xs.take i)
 have h4 := tot_nonneg ((xs.drop i).drop (j - i))
 omega
theorem ckT_parts {x1 x2 x3 : List ByteArray} {c : Ck} (h : c ∈ ckT x1 x2 x3) : c.1 = kd c.2.1 c.2.2.1 c.2.2.2 /\ tot c.2.1 <= tot x1 /\ tot c.2.2.1 <= tot x2 /\ tot c.2.2.2 <= tot x3 := by
 unfold ckT at h
 obtain ⟨s, _, hc⟩ := List.mem_flatMap.1 h
 unfold ptK putK at hc
 split at hc
 ·cases hc
 ·rw [List.mem_singleton] at hc
  subst hc
  exact ⟨rfl, tot_sg .., tot_sg .., tot_sg ..⟩
theorem clash_size (b o t : List ByteArray) : ((clashB b o t).size : Int) <= tot b + tot o + tot t + b.length + o.length + t.length + 32 := by
 have h1 : (clashB b o t).size = (clashL b o t).length := by simp [clashB, ByteArray.size]
 have h3 := endAll_le b
 have h5 := endAll_le o
 have h6 := endAll_le t
 have q1 : h1L.length = 8 := rfl
 have q2 : h2L.length = 8 := rfl
 have q3 : h3L.length = 8 := rfl
 have q4 : h4L.length = 8 := rfl
 rw [h1]
 unfold clashL
 simp only [List.length_append]
 omega
theorem pts_bd {c : Ck} (h1 : c.2.1.length <= 100) (h2 : c.2.2.1.length <= 100) (h3 : c.2.2.2.length <= 100) (t1 : tot c.2.1 <= 2000) (t2 : tot c.2.2.1 <= 2000) (t3 : tot c.2.2.2 <= 2000) : tot (pts c) <= 7000 /\ (pts c).length <= 100 := by
 unfold pts
 split
 ·have := clash_size c.2.1 c.2.2.1 c.2.2.2
  refine ⟨?_, by simp⟩
  have e : tot [clashB c.2.1 c.2.2.1 c.2.2.2] = ((clashB c.2.1 c.2.2.1 c.2.2.2).size : Int) := by simp [tot]
  rw [e]
  omega
 ·split
  ·exact ⟨by omega, h3⟩
  ·exact ⟨by omega, h2⟩
theorem ptsA_bd : ∀ (l : List Ck), (∀ c ∈ l, tot (pts c) <= 7000 /\ (pts c).length <= 100) -> tot (ptsA l) <= 7000 * l.length /\ (ptsA l).length <= 100 * l.length := by
 intro l
 induction l with
 | nil => intro _; exact ⟨Int.le_refl _, Nat.le_refl _⟩
 | cons c l ih =>
  intro h
  have h1 := h c (List.mem_cons_self ..)
  have h2 := ih (fun d hd => h d (List.mem_cons_of_mem _ hd))
  have e : ptsA (c :: l) = pts c ++ ptsA l := List.flatMap_cons ..
  rw [e, tot_app, List.length_append, List.length_cons]
  constructor
  ·push_cast; omega
  ·omega
structure MxOK (x1 x2 x3 : List ByteArray) : Prop where
 mx : Mx (ckT x1 x2 x3)
 few : (ptsA (ckT x1 x2 x3)).length <= 1000000
 full : ∀ s ∈ ptsA (ckT x1 x2 x3), s.data.toList ≠ []
 short : (ckT x1 x2 x3).length <= 201
theorem mxOK {x1 x2 x3 : List ByteArray} (l1 : lf x1 = 0) (l2 : lf x2 = 0) (l3 : lf x3 = 0) : MxOK x1 x2 x3 := by
 have b1 := lf_bd l1
 have b2 := lf_bd l2
 have b3 := lf_bd l3
 have w1 := lf_wh l1
 have w2 := lf_wh l2
 have w3 := lf_wh l3
 have hlen : (ckT x1 x2 x3).length <= 201 := by have := ckT_len x1 x2 x3; omega
 have hA := ptsA_bd (ckT x1 x2 x3) (fun c hc => by
  have m := ckT_mem hc
  have p := ckT_parts hc
  exact pts_bd (by omega) (by omega) (by omega) (by omega) (by omega) (by omega))
 refine ⟨⟨fun c hc => ?_, by omega⟩, by omega, fun s hs => ?_, hlen⟩
 ·have m := ckT_mem hc
  have p := ckT_parts hc
  refine ⟨by omega, by omega, by omega, by omega, by omega, by omega, fun h4 => ?_⟩
  unfold ctOK
  rw [wh_sub w1 m.1, wh_sub w2 m.2.1, wh_sub w3 m.2.2.1, decide_eq_true h4, decide_eq_true (p.1.symm.trans h4)]
  rfl
 ·unfold ptsA at hs
  obtain ⟨c, hc, hm⟩ := List.mem_flatMap.1 hs
  have m := ckT_mem hc
  unfold pts at hm
  split at hm
  ·rw [List.mem_singleton] at hm
   subst hm
   unfold clashB clashL h1L
   simp
  ·split at hm
   ·exact wh_pos w3 s (m.2.2.1 s hm)
   ·exact wh_pos w2 s (m.2.1 s hm)
def mgB (x1 x2 x3 : List ByteArray) : ByteArray := ⟨(jnF (ptsA (ckT x1 x2 x3))).toArray⟩
theorem mg_put {x1 x2 x3 : List ByteArray} (h : MxOK x1 x2 x3) : (⟨(putP [] (ptsA (ckT x1 x2 x3))).toArray⟩ : ByteArray) = mgB x1 x2 x3 := by
 unfold mgB
 rw [putP_join _ h.full]
end Go.Proofs.YtcfnkndbhpdfnaaGreatDoor
namespace Go.Proofs.YtcfnkndbhpdfnaaGreatDoor
open Go.ChangeShapes Go.WideShapes Go.ChangeAt Go.RowKit
theorem ptsA_len_le (l : List Ck) (k : Nat) (h : k < l.length) : (ptsA (l.take k)).length + (pts (l.getD k cnil)).length <= (ptsA l).length := by
 have e : ptsA l = ptsA (l.take k) ++ (pts (l.getD k cnil) ++ ptsA (l.drop (k + 1))) := by
  have := ck_drop l k h
  unfold ptsA
  rw [<- List.flatMap_cons, <- this, <- List.flatMap_append, List.take_append_drop]
 rw [e]
 simp only [List.length_append]
 omega
theorem ctOK_wh {x0 : Int} {x1 x2 x3 : List ByteArray} (h : ctOK x0 x1 x2 x3 = true) : wh x1 = true /\ wh x2 = true /\ wh x3 = true := by
 unfold ctOK at h
 simp only [Bool.and_eq_true] at h
 exact ⟨h.2.2.1, h.2.2.2.1, h.2.2.2.2⟩
theorem ret_two {s t : ByteArray} {a b : Int} (h : s = t) (k : a = b) : Ending.returned (.tuple #[.string s, .int .i64 a]) = .returned (.tuple #[.string t, .int .i64 b]) := by rw [h, k]
set_option maxRecDepth 20000 in
set_option maxHeartbeats 8000000 in
theorem l4Merge (a : Option Addr) (c : Nat) (l : List Ck) (w : World) (h : KB w.heap.size w a l) (hn : l.length <= 1048576) (hM : Mx l) (hpn : (ptsA l).length <= 1000000) (hp : ∀ s ∈ ptsA l, s.data.toList ≠ []) :
  Calls Tryz.prog 103 #[.slice a l.length c] w fun e w' => e = .returned (.tuple #[.string ⟨(jnF (ptsA l)).toArray⟩, .int .i64 (cc l)]) /\ Below w.heap.size w w' := by
 go_enter Tryz.func103, Tryz.ntmps103
 go_wp2
 go_loopw [4, 5, 6, 7] (fun v m j _ wr => ∃ k : Nat, k <= l.length /\ j = .int .i64 k /\ m = .int .i64 (cc (l.take k)) /\ wr.ownsRow w.heap.size 9 1 v (ptsA (l.take k)).length ((ptsA (l.take k)).map Value.string) /\ Below w.heap.size w wr) (fun _ _ j _ _ => l.length - (intOf j).toNat)
 case atStart => exact ⟨0, Nat.zero_le _, rfl, rfl, World.ownsRow_lit w #[] 0 (Nat.le_refl _) (Nat.zero_le _) rfl, allocBelow _ _⟩
 case round =>
  obtain ⟨k, hk, rfl, rfl, hown, hbel⟩ := hrel
  have hsz := hbel.size
  by_cases hlt : k < l.length
  ·have q : (k : Int) < (l.length : Int) := by omega
   have hle := ptsA_len_le l k hlt
   have hT := ptsA_take l k hlt
   have hcc := cc_take l k hlt
   have hcb := cc_bd (l.take k)
   have hct : ((l.take k).length : Int) <= 1048576 := by rw [List.length_take]; omega
   have hE := hM.each _ (ck_mem l k hlt)
   obtain ⟨g, off, a1, c1, a2, c2, a3, c3, e, hg, d0, d1, d2, d3, s1, s2, s3⟩ := h.below hbel k hlt
   subst e
   obtain ⟨C, hC⟩ : ∃ C, l.getD k cnil = C := ⟨_, rfl⟩
   obtain ⟨x0, x1, x2, x3⟩ := C
   rw [hC] at d0 d1 d2 d3 s1 s2 s3 hE hT hle hcc
   simp only [] at d0 d1 d2 d3 s1 s2 s3 hE
   obtain ⟨m1, m2, m3, t1, t2, t3, hok⟩ := hE
   obtain ⟨V, hV⟩ : ∃ V, wr.alloc (.cells #[.int .i64 x0, .slice a1 x1.length c1, .slice a2 x2.length c2, .slice a3 x3.length c3] 162) = V := ⟨_, rfl⟩
   have bV : Below wr.heap.size wr V := by rw [<- hV]; exact allocBelow _ _
   have rV : Rs V wr.heap.size [.int .i64 x0, .slice a1 x1.length c1, .slice a2 x2.length c2, .slice a3 x3.length c3] := by rw [<- hV]; exact Rs.new _ _ _
   have e0 := rV 0 _ rfl
   have e1 := rV 1 _ rfl
   have e2 := rV 2 _ rfl
   have e3 := rV 3 _ rfl
   have sV := bV.size
   have belV := below_step hbel hsz bV
   have ownV := hown.kept (grownOfBelow bV none) (blockCases _ _ fun _ _ e => by cases e)
   have u1 := s1.below bV
   have u2 := s2.below bV
   have u3 := s3.below bV
   have hvo : ∀ j, u4.ownBlock = some j -> w.heap.size <= j := fun j hj => (hown.lt j hj).1
   obtain ⟨S0, hS0⟩ : ∃ S, ptsA (l.take k) = S := ⟨_, rfl⟩
   obtain ⟨N0, hN0⟩ : ∃ N, cc (l.take k) = N := ⟨_, rfl⟩
   rw [hS0] at hT hle ownV
   rw [hN0] at hcc hcb ⊢
   clear rV hC hS0 hN0 hown hbel
   by_cases h2 : x0 = 2
   ·have hpt : pts (x0, x1, x2, x3) = x3 := by unfold pts; rw [if_neg (by simp only []; omega), if_pos h2]
    rw [hpt] at hT hle
    have HT : Hid (ptsA (l.take (k + 1)) = S0 ++ x3) := hT
    have HC : Hid (cc (l.take (k + 1)) = N0) := by show _ = _; rw [hcc]; unfold cc1; rw [if_neg (by simp only []; omega)]; omega
    subst h2
    clear hT hcc hpt hok
    go_wp2_with (at_builtin; refine wpList_appN rfl (.tmp 29) (.tmp 31) rfl w.heap.size w.heap.size _ _ rfl ownV _ _ _ rfl u3 (by omega) (by omega) ?_; intro v3 w3 o3 g3 _)
    have hB3 : Below w.heap.size w w3 := belV.grown g3 (by omega) (fun j hj => hvo j hj)
    rw [<- HT.out] at o3
    clear ownV u1 u2 u3 g3 belV d0 d1 d2 d3 e0 e1 e2 e3 hV
    go_roundw
    case rel => exact ⟨k + 1, by omega, by go_num, by rw [HC.out], o3, hB3⟩
    case measure => first | (simp [intOf]; omega) | simp [intOf]
   ·have q2 : (x0 == 2) = false := by simp [h2]
    by_cases h4 : x0 = 4
    ·have hpt : pts (x0, x1, x2, x3) = [clashB x1 x2 x3] := if_pos h4
     rw [hpt] at hT hle
     have HT : Hid (ptsA (l.take (k + 1)) = S0 ++ [clashB x1 x2 x3]) := hT
     have HC : Hid (cc (l.take (k + 1)) = N0 + 1) := by show _ = _; rw [hcc]; unfold cc1; rw [if_pos h4]
     obtain ⟨w1', w2', w3'⟩ := ctOK_wh (hok h4)
     have hCl := l4Clash x0 a1 a2 a3 c1 c2 c3 x1 x2 x3 V (u1.1.toSS (by omega)) (u2.1.toSS (by omega)) (u3.1.toSS (by omega)) m1 m2 m3 t1 t2 t3 w1' w2' w3'
     have hXs : (clashB x1 x2 x3).size <= 9223372036854775807 := by
      have h1 : (clashB x1 x2 x3).size = (clashL x1 x2 x3).length := by simp [clashB, ByteArray.size]
      have h3 := endAll_le x1
      have h5 := endAll_le x2
      have h6 := endAll_le x3
      rw [h1]
      unfold clashL
      simp only [List.length_append]
      have q1 : h1L.length = 8 := rfl
      have q2 : h2L.length = 8 := rfl
      have q3 : h3L.length = 8 := rfl
      have q4 : h4L.length = 8 := rfl
      omega
     subst h4
     generalize clashB x1 x2 x3 = X at hCl HT hXs hle
     clear hT hcc hpt hok w1' w2' w3'
     go_wp2_with fail
     refine hCl.mono ?_; rintro e w2 ⟨rfl, b2⟩
     have s2' := b2.size
     have own2 := ownV.kept (grownOfBelow b2 none) (blockCases _ _ fun _ _ e => by cases e)
     have bel2 := below_step belV (by omega) b2
     have hone : SSN (w2.alloc (.cells #[.string X] 9)).heap.size (w2.alloc (.cells #[.string X] 9)) (some ⟨w2.heap.size, 0, none⟩) 1 [X] := ⟨(oneSS w2 X 9 hXs).toB, fun h => (by cases h)⟩
     have own2a := own2.alloc (.cells #[.string X] 9)
     have hnn : N0 + 1 <= 9223372036854775807 := by omega
     clear hCl ownV b2 own2 belV
     go_wp2_with (at_builtin; refine wpList_appN rfl (.tmp 35) (.tmp 38) rfl w.heap.size _ _ S0 rfl own2a (some ⟨w2.heap.size, 0, none⟩) 1 [X] rfl hone (by simp only [List.length_singleton] at *; omega) (by simp only [World.size_alloc]; omega) ?_; intro v3 w3 o3 g3 _)
     have hB3 : Below w.heap.size w w3 := (bel2.alloc (by omega) _).grown g3 (by simp only [World.size_alloc]; omega) (fun j hj => hvo j hj)
     rw [<- HT.out] at o3
     clear own2a u1 u2 u3 g3 bel2 d0 d1 d2 d3 e0 e1 e2 e3 hV hone
     go_roundw
     case rel => exact ⟨k + 1, by omega, by go_num, by rw [HC.out], o3, hB3⟩
     case measure => first | (simp [intOf]; omega) | simp [intOf]
    ·have q4 : (x0 == 4) = false := by simp [h4]
     have hpt : pts (x0, x1, x2, x3) = x2 := by unfold pts; rw [if_neg h4, if_neg h2]
     rw [hpt] at hT hle
     have HT : Hid (ptsA (l.take (k + 1)) = S0 ++ x2) := hT
     have HC : Hid (cc (l.take (k + 1)) = N0) := by show _ = _; rw [hcc]; unfold cc1; rw [if_neg h4]; omega
     clear hT hcc hpt hok
     go_wp2_with (at_builtin; refine wpList_appN rfl (.tmp 23) (.tmp 25) rfl w.heap.size w.heap.size _ _ rfl ownV _ _ _ rfl u2 (by omega) (by omega) ?_; intro v3 w3 o3 g3 _)
     have hB3 : Below w.heap.size w w3 := belV.grown g3 (by omega) (fun j hj => hvo j hj)
     rw [<- HT.out] at o3
     clear ownV u1 u2 u3 g3 belV d0 d1 d2 d3 e0 e1 e2 e3 hV
     go_roundw
     case rel => exact ⟨k + 1, by omega, by go_num, by rw [HC.out], o3, hB3⟩
     case measure => first | (simp [intOf]; omega) | simp [intOf]
  ·have q : ¬ (k : Int) < (l.length : Int) := by omega
   rw [List.take_of_length_le (by omega)] at hown ⊢
   have hwl := hM.whole
   obtain ⟨pa, pc, ep⟩ := shapeS hown
   subst ep
   have hzs : ∀ j, j < (ptsA l).length -> ((ptsA l).getD j ByteArray.empty).size <= 9223372036854775807 := fun j hj => by
    have h1 := tot_take (ptsA l) j hj
    have h2 := tot_take_le (ptsA l) (j + 1)
    have h3 := tot_nonneg ((ptsA l).take j)
    omega
   have hS := ownSS hown hzs
   obtain ⟨ss, hss⟩ : ∃ ss, ptsA l = ss := ⟨_, rfl⟩
   obtain ⟨N0, hnn⟩ : ∃ N, cc l = N := ⟨_, rfl⟩
   have HSS : Hid (ptsA l = ss) := hss
   have HNN : Hid (cc l = N0) := hnn
   rw [hss] at hp hpn hwl hS hzs ⊢
   rw [hnn]
   clear hss hnn
   clear hown hM h
   obtain ⟨V, hV⟩ : ∃ V, V = wr := ⟨_, rfl⟩
   subst hV
   go_wp2
   go_loopw [8, 9] (fun t i wr2 => ∃ k : Nat, k <= ss.length /\ i = .int .i64 k /\ t = .string ⟨(jnK ss k).toArray⟩ /\ ∃ n, wr2 = V.drewN n) (fun _ i _ => ss.length - (intOf i).toNat)
   case atStart => exact ⟨0, Nat.zero_le _, rfl, by rw [jnK_zero], 0, rfl⟩
   case round =>
    obtain ⟨k, hk, rfl, rfl, n, hwr⟩ := hrel
    by_cases hlt : k < ss.length
    ·have q : (k : Int) < (ss.length : Int) := by omega
     obtain ⟨b, off, rfl, hb, hc0⟩ := hS.2 k hlt
     have hc : wr.cell? ⟨b, off + k, none⟩ = some (.string (ss.getD k ByteArray.empty)) := by rw [hwr]; exact hc0
     have HW : Hid (wr = V.drewN n) := hwr
     clear hwr hc0
     have hle := jnK_len ss k
     have hszk := hzs k hlt
     have hmid := fun h => jnK_mid (ss := ss) (k := k) h
     have hlast := fun h => jnK_last (ss := ss) (k := k) h
     have htk := tot_take ss k hlt
     have htl := tot_take_le ss (k + 1)
     have htn := tot_nonneg (ss.take k)
     have hpos : (ss.getD k ByteArray.empty).data.toList ≠ [] := hp _ (by rw [getD_at ss k hlt]; exact List.getElem_mem hlt)
     obtain ⟨s, hse⟩ : ∃ s, ss.getD k ByteArray.empty = s := ⟨_, rfl⟩
     rw [hse] at hc hpos htk hszk
     simp only [hse] at hmid hlast
     have hp0 : 0 < s.size := by
      have h2 : s.data.toList.length = s.size := by simp
      cases h : s.data.toList with
      | nil => exact absurd h hpos
      | cons => rw [h] at h2; simp at h2; omega
     have hL := lastIdx s hp0
     have h1 := bytesOf (jnK ss k) s
     obtain ⟨X, hX⟩ : ∃ X, jnK ss k = X := ⟨_, rfl⟩
     rw [hX] at hle h1 hmid hlast ⊢
     have hXl : (⟨X.toArray⟩ : ByteArray).size + s.size + 1 <= 400000000 := by
      have : (⟨X.toArray⟩ : ByteArray).size = X.length := by simp [ByteArray.size]
      omega
     have hX3 : X.length + s.size + 1 <= 9223372036854775807 := by
      have : (⟨X.toArray⟩ : ByteArray).size = X.length := by simp [ByteArray.size]
      omega
     have h2 := bytesOf (X ++ s.data.toList) ⟨#[10]⟩
     have hq1 : (1 : Int) <= (s.size : Int) := by omega
     have hI0 : (0 : Int) <= (s.size : Int) - 1 := by omega
     have hI1 : (s.size : Int) - 1 < (s.size : Int) := by omega
     clear hse hX hpos hle htk htl htn
     by_cases hlst : k + 1 = ss.length
     ·have HT : Hid (jnK ss (k + 1) = X ++ s.data.toList) := hlast hlst
      have ql : ¬ ((k : Int) < (ss.length : Int) - 1) := by omega
      have ql2 : decide ((k : Int) < (ss.length : Int) - 1) = false := decide_eq_false ql
      clear hmid hlast hL h2 hlst
      go_wp2
      go_quiet (fail)
      go_wp2
      go_roundw
      case rel => exact ⟨k + 1, by omega, by go_num, by rw [HT.out], n + nq, by rw [HW.out, World.drewN_drewN]⟩
      case measure => first | (simp [intOf]; omega) | simp [intOf]
     ·have hT := hmid (by omega)
      have ql : (k : Int) < (ss.length : Int) - 1 := by omega
      unfold endL at hT
      cases hen : endsL s.data.toList with
      | true =>
       rw [hen] at hL hT
       replace hL : (((s[s.size - 1]'(by omega)).toNat : Int) != 10) = false := hL
       have HT : Hid (jnK ss (k + 1) = X ++ s.data.toList) := by show _ = _; rw [hT, if_pos rfl]
       clear hT hen hmid hlast
       go_wp2
       go_quiet (fail)
       go_wp2
       go_roundw
       case rel => exact ⟨k + 1, by omega, by go_num, by rw [HT.out], n + nq, by rw [HW.out, World.drewN_drewN]⟩
       case measure => first | (simp [intOf]; omega) | simp [intOf]
      | false =>
       rw [hen] at hL hT
       replace hL : (((s[s.size - 1]'(by omega)).toNat : Int) != 10) = true := hL
       have HT : Hid (jnK ss (k + 1) = X ++ (s.data.toList ++ [10])) := by show _ = _; rw [hT, if_neg (by decide)]
       clear hT hen hmid hlast
       go_wp2
       go_quiet (fail)
       go_wp2
       go_roundw
       case rel => exact ⟨k + 1, by omega, by go_num, by rw [HT.out]; try rw [List.append_assoc], n + nq, by rw [HW.out, World.drewN_drewN]⟩
       case measure => first | (simp [intOf]; omega) | simp [intOf]
    ·have q : ¬ (k : Int) < (ss.length : Int) := by omega
     obtain rfl : k = ss.length := by omega
     have HE : Hid (jnK ss ss.length = jnF ss) := jnK_full ss
     have HB : Hid (Below w.heap.size w wr) := by show Below _ _ _; rw [hwr]; exact below_drewN' hbel n
     clear hwr hbel
     go_wp2
     refine bodyPost_ret (v := .tuple #[.string ⟨(jnK ss ss.length).toArray⟩, .int .i64 N0]) (by simp [results, Tryz.results103, go_sem]) rfl ?_
     exact ⟨ret_two (by rw [HE.out, HSS.out]) HNN.out.symm, HB.out⟩
end Go.Proofs.YtcfnkndbhpdfnaaGreatDoor
namespace Go.Proofs.YtcfnkndbhpdfnaaGreatDoor
open Go.ChangeShapes Go.WideShapes Go.ChangeAt Go.RowKit
theorem implTFw (s : ByteArray) (w : World) (hs : s.size <= 400000000) :
  Calls Tryz.prog 76 #[.string s] w fun e w' => e = .returned (.int .i64 (tf s)) /\ Below w.heap.size w w' := by
 by_cases hbig : 2000 < (s.size : Int)
 ·have hT : Hid (tf s = 2) := tf_many (Or.inl hbig)
  go_enter Tryz.func76, Tryz.ntmps76
  go_wp2
  go_ret
  exact ⟨ret_int hT.out.symm, Below.refl _ _⟩
 ·exact implTextFault s w (by omega)
theorem specTFw (s : ByteArray) (w : World) (hs : s.size <= 400000000) :
  Calls Tryz.prog 63 #[.string s] w fun e w' => e = .returned (.int .i64 (tf s)) /\ Below w.heap.size w w' := by
 by_cases hbig : 2000 < (s.size : Int)
 ·have hT : Hid (tf s = 2) := tf_many (Or.inl hbig)
  go_enter Tryz.func63, Tryz.ntmps63
  go_wp2_with fail
  go_ret
  exact ⟨ret_int hT.out.symm, Below.refl _ _⟩
 ·exact specTextFault s w (by omega)
def tx3 (a b c : ByteArray) : Int := if tf a = 0 then (if tf b = 0 then tf c else tf b) else tf a
theorem tx3_zero {a b c : ByteArray} (h : tx3 a b c = 0) : tf a = 0 /\ tf b = 0 /\ tf c = 0 := by
 unfold tx3 at h
 by_cases e1 : tf a = 0
 ·rw [if_pos e1] at h
  by_cases e2 : tf b = 0
  ·rw [if_pos e2] at h; exact ⟨e1, e2, h⟩
  ·rw [if_neg e2] at h; exact absurd h e2
 ·rw [if_neg e1] at h; exact absurd h e1
set_option maxHeartbeats 1000000 in
theorem l4Texts (a b c : ByteArray) (w : World) (ha : a.size <= 1048576) (hb : b.size <= 1048576) (hc : c.size <= 1048576) :
  Calls Tryz.prog 102 #[.string a, .string b, .string c] w fun e w' => e = .returned (.int .i64 (tx3 a b c)) /\ Below w.heap.size w w' := by
 have h1 := fun W => specTextFault a W ha
 have h2 := fun W => specTextFault b W hb
 have h3 := fun W => specTextFault c W hc
 have H1 : ¬ tf a = 0 -> Hid (tx3 a b c = tf a) := fun e => if_neg e
 have H2 : tf a = 0 -> ¬ tf b = 0 -> Hid (tx3 a b c = tf b) := fun e1 e => by show _ = _; unfold tx3; rw [if_pos e1, if_neg e]
 have H3 : tf a = 0 -> tf b = 0 -> Hid (tx3 a b c = tf c) := fun e1 e2 => by show _ = _; unfold tx3; rw [if_pos e1, if_pos e2]
 generalize tx3 a b c = R at H1 H2 H3 ⊢
 generalize tf a = q1 at h1 H1 H2 H3
 generalize tf b = q2 at h2 H2 H3
 generalize tf c = q3 at h3 H3
 go_enter Tryz.func102, Tryz.ntmps102
 go_wp2_with fail
 refine (h1 _).mono ?_; rintro e w1 ⟨rfl, b1⟩
 by_cases e1 : q1 = 0
 ·subst e1
  have H2' := H2 rfl
  have H3' := H3 rfl
  clear H1 H2 H3 h1
  go_wp2_with fail
  refine (h2 _).mono ?_; rintro e w2 ⟨rfl, b2⟩
  have B2 := b1.trans (b2.mono b1.size)
  by_cases e2 : q2 = 0
  ·subst e2
   have HR := H3' rfl
   clear H2' H3' h2 b2
   go_wp2_with fail
   refine (h3 _).mono ?_; rintro e w3 ⟨rfl, b3⟩
   have B3 := B2.trans (b3.mono B2.size)
   clear h3 b3
   go_wp2
   go_ret
   exact ⟨ret_int HR.out.symm, B3⟩
  ·have HR := H2' e2
   have q : (q2 != 0) = true := by simp [e2]
   clear H2' H3' h2 h3 b2 e2
   go_wp2
   go_ret
   exact ⟨ret_int HR.out.symm, B2⟩
 ·have HR := H1 e1
  have q : (q1 != 0) = true := by simp [e1]
  clear H1 H2 H3 h1 h2 h3 e1
  go_wp2
  go_ret
  exact ⟨ret_int HR.out.symm, b1⟩
def mtB (a b c : ByteArray) : ByteArray := mgB (linesOf a) (linesOf b) (linesOf c)
def mtR (a b c : ByteArray) : Int := if tx3 a b c = 0 then tf (mtB a b c) else tx3 a b c
def mtN (a b c : ByteArray) : Int := if mtR a b c = 0 then cc (ckT (linesOf a) (linesOf b) (linesOf c)) else 0
def mtT (a b c : ByteArray) : ByteArray := if mtR a b c = 0 then mtB a b c else ⟨#[]⟩
theorem ret_m3 {a b c d : Int} {s t : ByteArray} (h : a = b) (k : c = d) (e : s = t) : Ending.returned (.agg #[.int .i64 a, .int .i64 c, .string s]) = .returned (.agg #[.int .i64 b, .int .i64 d, .string t]) := by rw [h, k, e]
structure Tx (a b c : ByteArray) : Prop where
 ok : MxOK (linesOf a) (linesOf b) (linesOf c)
 n1 : (linesOf a).length <= 100
 n2 : (linesOf b).length <= 100
 n3 : (linesOf c).length <= 100
 y1 : ∀ x ∈ linesOf a, x.size <= 1048576
 y2 : ∀ x ∈ linesOf b, x.size <= 1048576
 y3 : ∀ x ∈ linesOf c, x.size <= 1048576
 sz : (mtB a b c).size <= 400000000
theorem Tx.of {a b c : ByteArray} (h : tx3 a b c = 0) : Tx a b c := by
 obtain ⟨z1, z2, z3⟩ := tx3_zero h
 have l1 := Rm.lf_lines z1
 have l2 := Rm.lf_lines z2
 have l3 := Rm.lf_lines z3
 have b1 := lf_bd l1
 have b2 := lf_bd l2
 have b3 := lf_bd l3
 have key : ∀ {ss : List ByteArray}, tot ss <= 2000 -> ∀ x ∈ ss, x.size <= 1048576 := fun {ss} ht x hx => by
  obtain ⟨k, hk, e⟩ := List.getElem_of_mem hx
  have h1 := tot_take ss k hk
  have h2 := tot_take_le ss (k + 1)
  have h3 := tot_nonneg (ss.take k)
  rw [getD_at _ k hk, e] at h1
  omega
 have ok := mxOK l1 l2 l3
 refine ⟨ok, b1.1, b2.1, b3.1, key b1.2, key b2.2, key b3.2, ?_⟩
 have h1 := jnK_len (ptsA (ckT (linesOf a) (linesOf b) (linesOf c))) (ptsA (ckT (linesOf a) (linesOf b) (linesOf c))).length
 rw [jnK_full] at h1
 have h2 := ok.mx.whole
 have h3 : (mtB a b c).size = (jnF (ptsA (ckT (linesOf a) (linesOf b) (linesOf c)))).length := by simp [mtB, mgB, ByteArray.size]
 omega
theorem Tx.z3 {a b c : ByteArray} (h : Tx a b c) {c1 c2 c3 : Nat} (k1 : (linesOf a).length <= c1) (k2 : (linesOf b).length <= c2) (k3 : (linesOf c).length <= c3) : Z3 c1 c2 c3 (linesOf a) (linesOf b) (linesOf c) :=
 ⟨k1, k2, k3, by have := h.n1; omega, by have := h.n2; omega, by have := h.n3; omega, h.y1, h.y2, h.y3⟩
theorem own_cap {w : World} {base : Nat} {e : TypeId} {s : Nat} {a : Option Addr} {n c : Nat} {xs : List Value} (h : w.ownsRow base e s (.slice a n c) n xs) : n <= c /\ (a = none -> c = 0) := by
 rcases h.2 with ⟨h', h0⟩ | ⟨g, cap, cur, h', _, _, hc, _⟩
 ·cases h'; exact ⟨Nat.le_refl _, fun _ => rfl⟩
 ·cases h'; exact ⟨hc, fun e => (by cases e)⟩
theorem ck_fits {x1 x2 x3 : List ByteArray} (y1 : ∀ x ∈ x1, x.size <= 1048576) (y2 : ∀ x ∈ x2, x.size <= 1048576) (y3 : ∀ x ∈ x3, x.size <= 1048576) : FitsK (ckT x1 x2 x3) := fun ss hs k hk => by
 obtain ⟨c, hc, hq⟩ := mem_of_lns hs
 have m := ckT_mem hc
 rw [getD_at _ k hk]
 rcases hq with rfl | rfl | rfl
 ·have := y1 _ (m.1 _ (List.getElem_mem hk)); omega
 ·have := y2 _ (m.2.1 _ (List.getElem_mem hk)); omega
 ·have := y3 _ (m.2.2.1 _ (List.getElem_mem hk)); omega
set_option maxRecDepth 20000 in
set_option maxHeartbeats 4000000 in
theorem specMergeTexts (a b c : ByteArray) (w : World) (ha : a.size <= 1048576) (hb : b.size <= 1048576) (hc : c.size <= 1048576) :
  Calls Tryz.prog 73 #[.string a, .string b, .string c] w fun e w' => e = .returned (.agg #[.int .i64 (mtR a b c), .int .i64 (mtN a b c), .string (mtT a b c)]) /\ Below w.heap.size w w' := by
 have hT := fun W => l4Texts a b c W ha hb hc
 have hS1 := fun W => l1Split a W ha
 have hS2 := fun W => l1Split b W hb
 have hS3 := fun W => l1Split c W hc
 have hX := fun (h : tx3 a b c = 0) => Tx.of h
 have hR1 : ¬ tx3 a b c = 0 -> Hid (mtR a b c = tx3 a b c /\ mtN a b c = 0 /\ mtT a b c = ⟨#[]⟩) := fun e => by
  have h : mtR a b c = tx3 a b c := if_neg e
  exact ⟨h, if_neg (by rw [h]; exact e), if_neg (by rw [h]; exact e)⟩
 have hR2 : tx3 a b c = 0 -> Hid (mtR a b c = tf (mtB a b c) /\ (¬ tf (mtB a b c) = 0 -> mtN a b c = 0 /\ mtT a b c = ⟨#[]⟩) /\ (tf (mtB a b c) = 0 -> mtN a b c = cc (ckT (linesOf a) (linesOf b) (linesOf c)) /\ mtT a b c = mtB a b c)) := fun e => by
  have h : mtR a b c = tf (mtB a b c) := if_pos e
  exact ⟨h, fun e => ⟨if_neg (by rw [h]; exact e), if_neg (by rw [h]; exact e)⟩, fun e => ⟨if_pos (by rw [h]; exact e), if_pos (by rw [h]; exact e)⟩⟩
 have hTB := fun (h : (mtB a b c).size <= 400000000) W => specTFw (mtB a b c) W h
 generalize mtR a b c = R at hR1 hR2 ⊢
 generalize mtN a b c = N at hR1 hR2 ⊢
 generalize mtT a b c = X at hR1 hR2 ⊢
 generalize tx3 a b c = q1 at hT hX hR1 hR2
 generalize tf (mtB a b c) = q2 at hR2 hTB
 obtain ⟨W1, hW1⟩ : ∃ W1, w.alloc (.cells #[.int .i64 0, .int .i64 0, .string ⟨#[]⟩] 114) = W1 := ⟨_, rfl⟩
 have b1 : Below w.heap.size w W1 := by rw [<- hW1]; exact allocBelow _ _
 have zW : w.heap.size < W1.heap.size := by rw [<- hW1]; simp
 have r1 : Rf W1 w.heap.size [.int .i64 0, .int .i64 0, .string ⟨#[]⟩] := by rw [<- hW1]; exact Rf.new _ _ _
 go_enter Tryz.func73, Tryz.ntmps73
 go_wp2_with fail
 refine (hT _).mono ?_; rintro e w2 ⟨rfl, b2⟩
 have B2 := b1.trans (b2.mono b1.size)
 have r2 := r1.below zW b2
 have z2 := b2.size
 clear hT b2 r1 b1 hW1
 by_cases e0 : q1 = 0
 ·have h2 := (hR2 e0).out
  have hx := hX e0
  subst e0
  clear hR1 hR2 hX
  go_wp2_with fail
  refine (hS1 _).mono ?_; rintro e w3 ⟨v1, rfl, o1, b3⟩
  obtain ⟨p1, d1, rfl⟩ := shapeS o1
  have B3 := B2.trans (b3.mono B2.size)
  have r3 := r2.below (by omega) b3
  have z3 := b3.size
  clear hS1 B2 r2
  go_wp2_with fail
  refine (hS2 _).mono ?_; rintro e w4 ⟨v2, rfl, o2, b4⟩
  obtain ⟨p2, d2, rfl⟩ := shapeS o2
  have B4 := B3.trans (b4.mono B3.size)
  have r4 := r3.below (by omega) b4
  have z4 := b4.size
  replace o1 := o1.kept (grownOfBelow b4 none) (blockCases _ _ fun _ _ e => by cases e)
  clear hS2 B3 r3 b3
  go_wp2_with fail
  refine (hS3 _).mono ?_; rintro e w5 ⟨v3, rfl, o3, b5⟩
  obtain ⟨p3, d3, rfl⟩ := shapeS o3
  have B5 := B4.trans (b5.mono B4.size)
  have r5 := r4.below (by omega) b5
  have z5 := b5.size
  replace o1 := o1.kept (grownOfBelow b5 none) (blockCases _ _ fun _ _ e => by cases e)
  replace o2 := o2.kept (grownOfBelow b5 none) (blockCases _ _ fun _ _ e => by cases e)
  have fz : ∀ {ss : List ByteArray}, (∀ x ∈ ss, x.size <= 1048576) -> ∀ k, k < ss.length -> (ss.getD k ByteArray.empty).size <= 9223372036854775807 := fun {ss} hy k hk => by
   rw [getD_at _ k hk]; have := hy _ (List.getElem_mem hk); omega
  have x3 : X3 w5.heap.size w5 p1 p2 p3 d1 d2 d3 (linesOf a) (linesOf b) (linesOf c) := ⟨(ownSS o1 (fz hx.y1)).toB, (ownSS o2 (fz hx.y2)).toB, (ownSS o3 (fz hx.y3)).toB⟩
  have hz := hx.z3 (own_cap o1).1 (own_cap o2).1 (own_cap o3).1
  have hL := l4Chunks p1 p2 p3 d1 d2 d3 (linesOf a) (linesOf b) (linesOf c) w5 x3 hz ⟨(own_cap o1).2, (own_cap o2).2, (own_cap o3).2⟩ hx.n1 hx.n2 hx.n3 (kp_ok _ _ _) (by have := ckT_len (linesOf a) (linesOf b) (linesOf c); have := hx.n1; unfold ckT kpL at *; omega)
  have hL' : Calls Tryz.prog 104 #[.slice p1 (linesOf a).length d1, .slice p2 (linesOf b).length d2, .slice p3 (linesOf c).length d3] w5 fun e w' => KPs (ckT (linesOf a) (linesOf b) (linesOf c)) w5 e w' := hL
  clear hS3 B4 r4 b4 b5 o1 o2 o3 x3 hz hL
  go_wp2_with fail
  refine hL'.mono ?_; rintro e w6 ⟨v6, sl6, rfl, O6, b6⟩
  obtain ⟨p6, d6, rfl⟩ := shapeK O6.row
  have B6 := B5.trans (b6.mono B5.size)
  have r6 := r5.below (by omega) b6
  have z6 := b6.size
  have hMg := l4Merge p6 d6 (ckT (linesOf a) (linesOf b) (linesOf c)) w6 (O6.read (ck_fits hx.y1 hx.y2 hx.y3)) (by have := hx.ok.short; omega) hx.ok.mx hx.ok.few hx.ok.full
  have hTB' := hTB hx.sz
  have hbq : (⟨(jnF (ptsA (ckT (linesOf a) (linesOf b) (linesOf c)))).toArray⟩ : ByteArray) = mtB a b c := rfl
  rw [hbq] at hMg
  generalize mtB a b c = Y at hMg hTB' h2
  generalize ckT (linesOf a) (linesOf b) (linesOf c) = CK at hMg h2
  clear hL' O6 B5 r5 b6 hbq hTB hx fz
  go_wp2_with fail
  refine hMg.mono ?_; rintro e w7 ⟨rfl, b7⟩
  have B7 := B6.trans (b7.mono B6.size)
  have r7 := r6.below (by omega) b7
  have z7 := b7.size
  clear hMg B6 r6 b7
  go_wp2_with fail
  refine (hTB' _).mono ?_; rintro e w8 ⟨rfl, b8⟩
  have B8 := B7.trans (b8.mono B7.size)
  have r8 := r7.below (by omega) b8
  clear hTB' B7 r7 b8
  have f0 := r8.at_ 0 _ rfl
  have f1 := r8.at_ 1 _ rfl
  have f2 := r8.at_ 2 _ rfl
  have g0 := r8.fz 0
  have g1 := r8.fz 1
  have g2 := r8.fz 2
  by_cases e2 : q2 = 0
  ·have HR : Hid (R = 0) := h2.1.trans e2
   have HN : Hid (N = cc CK) := (h2.2.2 e2).1
   have HX : Hid (X = Y) := (h2.2.2 e2).2
   subst e2
   generalize cc CK = M at HN ⊢
   have HB : Hid (Below w.heap.size w (((w8.setCell ⟨w.heap.size, 0, none⟩ (.int .i64 0)).setCell ⟨w.heap.size, 1, none⟩ (.int .i64 M)).setCell ⟨w.heap.size, 2, none⟩ (.string Y))) := below_set3 B8 (Nat.le_refl _)
   clear h2 r8 B8
   go_wp2
   refine bodyPost_ret (v := .agg #[.int .i64 0, .int .i64 M, .string Y]) (by simp [results, Tryz.results73, go_sem, f0, f1, f2]) rfl ?_
   exact ⟨ret_m3 HR.out.symm HN.out.symm HX.out.symm, HB.out⟩
  ·have HR : Hid (R = q2) := h2.1
   have HN : Hid (N = 0) := (h2.2.1 e2).1
   have HX : Hid (X = ⟨#[]⟩) := (h2.2.1 e2).2
   have q : (q2 != 0) = true := by simp [e2]
   have HB : Hid (Below w.heap.size w (((w8.setCell ⟨w.heap.size, 0, none⟩ (.int .i64 q2)).setCell ⟨w.heap.size, 1, none⟩ (.int .i64 0)).setCell ⟨w.heap.size, 2, none⟩ (.string ⟨#[]⟩))) := below_set3 B8 (Nat.le_refl _)
   clear h2 r8 B8 e2
   go_wp2
   refine bodyPost_ret (v := .agg #[.int .i64 q2, .int .i64 0, .string ⟨#[]⟩]) (by simp [results, Tryz.results73, go_sem, f0, f1, f2]) rfl ?_
   exact ⟨ret_m3 HR.out.symm HN.out.symm HX.out.symm, HB.out⟩
 ·have h2 := (hR1 e0).out
  have HR : Hid (R = q1) := h2.1
  have HN : Hid (N = 0) := h2.2.1
  have HX : Hid (X = ⟨#[]⟩) := h2.2.2
  have q : (q1 != 0) = true := by simp [e0]
  have f0 := r2.at_ 0 _ rfl
  have f1 := r2.at_ 1 _ rfl
  have f2 := r2.at_ 2 _ rfl
  have g0 := r2.fz 0
  have g1 := r2.fz 1
  have g2 := r2.fz 2
  have HB : Hid (Below w.heap.size w (((w2.setCell ⟨w.heap.size, 0, none⟩ (.int .i64 q1)).setCell ⟨w.heap.size, 1, none⟩ (.int .i64 0)).setCell ⟨w.heap.size, 2, none⟩ (.string ⟨#[]⟩))) := below_set3 B2 (Nat.le_refl _)
  clear h2 r2 B2 e0 hR1 hR2 hX hS1 hS2 hS3 hTB
  go_wp2
  refine bodyPost_ret (v := .agg #[.int .i64 q1, .int .i64 0, .string ⟨#[]⟩]) (by simp [results, Tryz.results73, go_sem, f0, f1, f2]) rfl ?_
  exact ⟨ret_m3 HR.out.symm HN.out.symm HX.out.symm, HB.out⟩
end Go.Proofs.YtcfnkndbhpdfnaaGreatDoor
