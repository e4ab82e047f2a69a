/- The contracts of appendChunk and of l4Put, bare or not. No statement is proved here. -/
import Derived.Test.YtcfnkndbhpdfnaaGreatDoorCkPQ
import Derived.Test.YtcfnkndbhpdfnaaGreatDoorKpAQ
import Derived.Deep.Cut
namespace Go.Proofs.YtcfnkndbhpdfnaaGreatDoor
open Go.ChangeShapes Go.WideShapes Go.ChangeAt Go.RowKit
def putK (x1 x2 x3 : List ByteArray) : List Ck := if bare (0, x1, x2, x3) = true then [] else [(kd x1 x2 x3, x1, x2, x3)]
theorem bare_any (k : Int) (x1 x2 x3 : List ByteArray) : bare (k, x1, x2, x3) = bare (0, x1, x2, x3) := rfl
theorem putK_yes {x1 x2 x3 : List ByteArray} (h : bare (0, x1, x2, x3) = true) : putK x1 x2 x3 = [] := if_pos h
theorem putK_no {x1 x2 x3 : List ByteArray} (h : bare (0, x1, x2, x3) = false) : putK x1 x2 x3 = [(kd x1 x2 x3, x1, x2, x3)] := if_neg (by rw [h]; decide)
def PutQ (base : Nat) (v : Value) (L : List Ck) (w : World) (e : Ending) (w' : World) : Prop := ∃ v' sl', e = .returned v' /\ KO base w' v' L sl' /\ w.grownBy w' v.ownBlock /\ (v'.ownBlock = v.ownBlock \/ ∃ b, v'.ownBlock = some b /\ w.heap.size <= b)
set_option maxRecDepth 20000 in
set_option maxHeartbeats 4000000 in
theorem appendChunk (base : Nat) (v : Value) (L : List Ck) (sl : Nat -> Value) (a1 a2 a3 : Option Addr) (c1 c2 c3 : Nat) (x1 x2 x3 : List ByteArray) (w : World) (hO : KO base w v L sl) (hb : base <= w.heap.size) (h1 : SS w a1 x1) (h2 : SS w a2 x2) (h3 : SS w a3 x3) (n1 : x1.length <= 1048576) (n2 : x2.length <= 1048576) (n3 : x3.length <= 1048576) (hL : L.length <= 1048576)
  (y1 : ∀ k, k < x1.length -> (x1.getD k ByteArray.empty).size <= 1048576) (y2 : ∀ k, k < x2.length -> (x2.getD k ByteArray.empty).size <= 1048576) (y3 : ∀ k, k < x3.length -> (x3.getD k ByteArray.empty).size <= 1048576) :
  Calls Tryz.prog 175 #[v, .agg #[.slice a1 x1.length c1, .slice a2 x2.length c2, .slice a3 x3.length c3]] w fun e w' => PutQ base v (L ++ putK x1 x2 x3) w e w' := by
 obtain ⟨i1, hi', hy0, hy1, hy2⟩ := info_parts infoChunk
 have hV : ∀ b, v.ownBlock = some b -> base <= b /\ b < w.heap.size := fun b hb => hO.row.lt b hb
 have hSl : ∀ k, k < L.length * 3 -> ∀ b, (sl k).ownBlock = some b -> b < w.heap.size := fun k hk b hb => ((hO.each k hk).lt b hb).2
 have hPy := putK_yes (x1 := x1) (x2 := x2) (x3 := x3)
 have hPn := putK_no (x1 := x1) (x2 := x2) (x3 := x3)
 have hIB := fun k (a1 a2 a3 : Option Addr) (c1 c2 c3 : Nat) W => isBare k a1 a2 a3 c1 c2 c3 x1 x2 x3 W
 simp only [bare_any] at hIB
 obtain ⟨W0, hW0⟩ : ∃ W, w.alloc (.cells #[.slice a1 x1.length c1, .slice a2 x2.length c2, .slice a3 x3.length c3] 194) = W := ⟨_, rfl⟩
 have b0 : Below w.heap.size w W0 := by rw [<- hW0]; exact allocBelow _ _
 have R0 : Rs W0 w.heap.size [.slice a1 x1.length c1, .slice a2 x2.length c2, .slice a3 x3.length c3] := by rw [<- hW0]; exact Rs.new _ _ _
 have p0 := R0 0 _ rfl
 have p1 := R0 1 _ rfl
 have p2 := R0 2 _ rfl
 have z0 := b0.size
 have hNC := newChunk a1 a2 a3 c1 c2 c3 x1 x2 x3 W0 ((h1.toB.below b0).toSS z0) ((h2.toB.below b0).toSS z0) ((h3.toB.below b0).toSS z0) n1 n2 n3 y1 y2 y3
 have H0 := hO.below b0
 obtain ⟨K, hKe⟩ : ∃ K, kd x1 x2 x3 = K := ⟨_, rfl⟩
 unfold NP at hNC
 rw [hKe] at hNC hPn
 obtain ⟨ra, rc, er⟩ := shapeK hO.row
 subst er
 clear hKe h1 h2 h3 n1 n2 n3 y1 y2 y3 R0 hO
 go_enter Tryz.func175, Tryz.ntmps175
 go_wp2_with fail
 refine hNC.mono ?_; rintro e w5 ⟨v1, v2, v3, rfl, C5, b5⟩
 obtain ⟨va1, vc1, ev1⟩ := shapeS C5.o1
 obtain ⟨va2, vc2, ev2⟩ := shapeS C5.o2
 obtain ⟨va3, vc3, ev3⟩ := shapeS C5.o3
 simp only [] at ev1 ev2 ev3
 subst ev1 ev2 ev3
 have l1 := fun b hb => (C5.o1.lt b hb).1
 have l2 := fun b hb => (C5.o2.lt b hb).1
 have l3 := fun b hb => (C5.o3.lt b hb).1
 have s5 := b5.size
 obtain ⟨V, hVe⟩ : ∃ W, w5.alloc (.cells #[.int .i64 K, .slice va1 x1.length vc1, .slice va2 x2.length vc2, .slice va3 x3.length vc3] 162) = W := ⟨_, rfl⟩
 have bV : Below w5.heap.size w5 V := by rw [<- hVe]; exact allocBelow _ _
 have RV : Rs V w5.heap.size [.int .i64 K, .slice va1 x1.length vc1, .slice va2 x2.length vc2, .slice va3 x3.length vc3] := by rw [<- hVe]; exact Rs.new _ _ _
 have d0 := RV 0 _ rfl
 have d1 := RV 1 _ rfl
 have d2 := RV 2 _ rfl
 have d3 := RV 3 _ rfl
 have sV := bV.size
 clear hNC p0 p1 p2 hW0
 go_wp2_with fail
 refine (hIB K va1 va2 va3 vc1 vc2 vc3 V).mono ?_; rintro e w6 ⟨rfl, b6⟩
 have s6 := b6.size
 have B6 : Below W0.heap.size W0 w6 := below_step (below_step b5 s5 bV) (by omega) b6
 have H6 := H0.below B6
 have BB : Below w.heap.size w w6 := below_step b0 z0 B6
 have C6 : C3 base w6 (K, x1, x2, x3) _ _ _ := ((C5.below (goB b6 bV)).mono (by omega))
 have F6 := Fr.ofBelow (lo := 0) (hi := 0) b6
 replace d0 := F6.cell d0 (.inr (Nat.zero_le _))
 replace d1 := F6.cell d1 (.inr (Nat.zero_le _))
 replace d2 := F6.cell d2 (.inr (Nat.zero_le _))
 replace d3 := F6.cell d3 (.inr (Nat.zero_le _))
 clear hIB C5 H0 b5 bV b6 RV F6 hVe B6
 cases hbr : bare (0, x1, x2, x3) with
 | true =>
  have HP := hPy hbr
  have HF : Hid (PutQ base (Value.slice ra L.length rc) (L ++ putK x1 x2 x3) w (.returned (.slice ra L.length rc)) w6) := by
   show PutQ _ _ _ _ _ _
   rw [HP, List.append_nil]
   exact ⟨_, sl, rfl, H6, grownOfBelow BB _, .inl rfl⟩
  clear hPy hPn HP hbr H6 BB C6 hV hSl l1 l2 l3
  go_wp2
  go_ret
  exact HF.out
 | false =>
  have HP : Hid (putK x1 x2 x3 = [(K, x1, x2, x3)]) := hPn hbr
  have hPU := fun (W7 : World) (v' : Value) o p7 g7 k7 => KO.push (w6 := W7) (v' := v') (o := o) (M := W0.heap.size) (C := (K, x1, x2, x3)) H6 C6 (fun b hb => by have := (hV b hb).2; omega) (fun k hk b hb => by have := hSl k hk b hb; omega) l1 l2 l3 p7 g7 k7
  have hrow := H6.row
  clear hPy hPn hbr C6 hSl l1 l2 l3
  go_wp2_with ((at_builtin; refine wpList_append_own_at _ rfl (.tmp 11) (.tmp 13) 140 rfl base 162 i1 (.agg #[.int .i64 0, .slice none 0 0, .slice none 0 0, .slice none 0 0]) 4 80 Tryz.underlying140 hi' hy0 hy1 hy2 rfl (by decide) _ _ _ rfl (hrow.alloc _) ⟨w6.heap.size, 0, none⟩ 1 1 [.int .i64 K, .slice va1 x1.length vc1, .slice va2 x2.length vc2, .slice va3 x3.length vc3] rfl rfl (newsCells w6 #[.int .i64 K, .slice va1 x1.length vc1, .slice va2 x2.length vc2, .slice va3 x3.length vc3] 162) (by simp [Value.oneCell']) (by unfold maxLen; omega) (by omega) (by simp; omega) ?_; intro v' W7 p7 g7 _ k7))
  have HH := hPU W7 v' _ p7 g7 k7
  rw [<- HP.out] at HH
  have HG : w.grownBy W7 (Value.slice ra L.length rc).ownBlock := grownTrans (grownTrans (grownOfBelow BB _) (World.grownBy_alloc _ _ _)) g7
  have HK : v'.ownBlock = (Value.slice ra L.length rc).ownBlock \/ ∃ b, v'.ownBlock = some b /\ w.heap.size <= b := k7.imp id (fun e => ⟨_, e, by have := BB.size; simp; omega⟩)
  clear hPU p7 g7 k7 hrow H6 BB
  go_ret
  exact ⟨_, _, rfl, HH, HG, HK⟩
theorem bare_len {x1 x2 x3 : List ByteArray} (h : bare (0, x1, x2, x3) = true) : ((x1.length : Int) + (x2.length : Int) + (x3.length : Int) == 0) = true := by rw [<- bare_sum 0]; exact h
set_option maxRecDepth 20000 in
set_option maxHeartbeats 2000000 in
theorem l4PutW (base : Nat) (v : Value) (L : List Ck) (sl : Nat -> Value) (a1 a2 a3 : Option Addr) (c1 c2 c3 : Nat) (x1 x2 x3 : List ByteArray) (w : World) (hO : KO base w v L sl) (hb : base <= w.heap.size) (h1 : SSN w.heap.size w a1 c1 x1) (h2 : SSN w.heap.size w a2 c2 x2) (h3 : SSN w.heap.size w a3 c3 x3) (n1 : x1.length <= 1048576) (n2 : x2.length <= 1048576) (n3 : x3.length <= 1048576) (hL : L.length <= 1048576) :
  Calls Tryz.prog 121 #[v, .slice a1 x1.length c1, .slice a2 x2.length c2, .slice a3 x3.length c3] w fun e w' => PutP base v (L ++ putK x1 x2 x3) w e w' := by
 cases hbr : bare (0, x1, x2, x3) with
 | false => rw [putK_no hbr]; exact l4Put base v L sl a1 a2 a3 c1 c2 c3 x1 x2 x3 w hO hb h1 h2 h3 n1 n2 n3 hL hbr
 | true =>
  rw [putK_yes hbr, List.append_nil]
  have hq := bare_len hbr
  have HF : Hid (PutP base v L w (.returned v) w) := ⟨_, sl, rfl, hO, grownOfBelow (Below.refl _ _) _⟩
  obtain ⟨ra, rc, er⟩ := shapeK hO.row
  subst er
  clear hbr h1 h2 h3 hO
  go_enter Tryz.func121, Tryz.ntmps121
  go_wp2
  go_ret
  exact HF.out
end Go.Proofs.YtcfnkndbhpdfnaaGreatDoor
namespace Go.Proofs.YtcfnkndbhpdfnaaGreatDoor
open Go.ChangeShapes Go.WideShapes Go.ChangeAt Go.RowKit
def sgK (xs : List ByteArray) (i j : Nat) : List ByteArray := (xs.drop i).take (j - i)
def ptK (x1 x2 x3 : List ByteArray) (s : T3 × T3) : List Ck := putK (sgK x1 s.1.1 s.2.1) (sgK x2 s.1.2.1 s.2.2.1) (sgK x3 s.1.2.2 s.2.2.2)
theorem sgK_len {xs : List ByteArray} {i j : Nat} (h : j <= xs.length) : (sgK xs i j).length = j - i := by unfold sgK; rw [List.length_take, List.length_drop]; omega
structure X3 (B : Nat) (w : World) (a1 a2 a3 : Option Addr) (c1 c2 c3 : Nat) (x1 x2 x3 : List ByteArray) : Prop where
 s1 : SSB B w a1 x1
 s2 : SSB B w a2 x2
 s3 : SSB B w a3 x3
theorem X3.belowAt {B : Nat} {w w' : World} {a1 a2 a3 : Option Addr} {c1 c2 c3 : Nat} {x1 x2 x3 : List ByteArray} (h : X3 B w a1 a2 a3 c1 c2 c3 x1 x2 x3) (hb : Below B w w') : X3 B w' a1 a2 a3 c1 c2 c3 x1 x2 x3 :=
 ⟨⟨h.s1.1, fun k hk => by obtain ⟨g, o, e, hl, hc⟩ := h.s1.2 k hk; exact ⟨g, o, e, hl, (hb.cell (p := ⟨g, o + k, none⟩) hl).trans hc⟩⟩, ⟨h.s2.1, fun k hk => by obtain ⟨g, o, e, hl, hc⟩ := h.s2.2 k hk; exact ⟨g, o, e, hl, (hb.cell (p := ⟨g, o + k, none⟩) hl).trans hc⟩⟩, ⟨h.s3.1, fun k hk => by obtain ⟨g, o, e, hl, hc⟩ := h.s3.2 k hk; exact ⟨g, o, e, hl, (hb.cell (p := ⟨g, o + k, none⟩) hl).trans hc⟩⟩⟩
structure Z3 (c1 c2 c3 : Nat) (x1 x2 x3 : List ByteArray) : Prop where
 k1 : x1.length <= c1
 k2 : x2.length <= c2
 k3 : x3.length <= c3
 n1 : x1.length <= 1048576
 n2 : x2.length <= 1048576
 n3 : x3.length <= 1048576
 y1 : ∀ x ∈ x1, x.size <= 1048576
 y2 : ∀ x ∈ x2, x.size <= 1048576
 y3 : ∀ x ∈ x3, x.size <= 1048576
theorem appendSeg (base : Nat) (v : Value) (L : List Ck) (sl : Nat -> Value) (a1 a2 a3 : Option Addr) (c1 c2 c3 : Nat) (x1 x2 x3 : List ByteArray) (f0 f1 f2 t0 t1 t2 : Nat) (w : World) (B : Nat) (hO : KO base w v L sl) (hb : base <= w.heap.size) (hX : X3 B w a1 a2 a3 c1 c2 c3 x1 x2 x3) (hB : B <= w.heap.size) (hZ : Z3 c1 c2 c3 x1 x2 x3) (hL : L.length <= 1048576)
  (h1 : le3 (f0, f1, f2) (t0, t1, t2)) (h2 : le3 (t0, t1, t2) (x1.length, x2.length, x3.length)) :
  Calls Tryz.prog 175 #[v, .agg #[segV a1 c1 f0 t0, segV a2 c2 f1 t1, segV a3 c3 f2 t2]] w fun e w' => PutQ base v (L ++ ptK x1 x2 x3 ((f0, f1, f2), (t0, t1, t2))) w e w' := by
 obtain ⟨h10, h11, h12⟩ := h1
 obtain ⟨h20, h21, h22⟩ := h2
 simp only [] at h10 h11 h12 h20 h21 h22
 have l1 : (sgK x1 f0 t0).length = t0 - f0 := sgK_len h20
 have l2 : (sgK x2 f1 t1).length = t1 - f1 := sgK_len h21
 have l3 : (sgK x3 f2 t2).length = t2 - f2 := sgK_len h22
 have q1 := segSSB hX.s1 f0 t0 c1 h10 h20 hZ.k1
 have q2 := segSSB hX.s2 f1 t1 c2 h11 h21 hZ.k2
 have q3 := segSSB hX.s3 f2 t2 c3 h12 h22 hZ.k3
 have hA := appendChunk base v L sl (segA a1 c1 f0) (segA a2 c2 f1) (segA a3 c3 f2) (c1 - f0) (c2 - f1) (c3 - f2) (sgK x1 f0 t0) (sgK x2 f1 t1) (sgK x3 f2 t2) w hO hb (q1.toSS hB) (q2.toSS hB) (q3.toSS hB) (by have := hZ.n1; omega) (by have := hZ.n2; omega) (by have := hZ.n3; omega) hL (seg_small hZ.y1 f0 t0) (seg_small hZ.y2 f1 t1) (seg_small hZ.y3 f2 t2)
 rw [l1, l2, l3] at hA
 exact hA
theorem tog_at : ∀ (r : List T3) (p : T3), (p :: r).getD (tog p r) t3z = ad p (tog p r) := by
 intro r
 induction r with
 | nil => intro p; rw [tog_nil]; rfl
 | cons q r ih =>
  intro p
  by_cases e : q = nx p
  ·subst e
   rw [tog_yes, List.getD_cons_succ, ih, ad_nx]
  ·rw [tog_no r e]; rfl
theorem T3s.drop {l : List T3} (h : T3s l) (n : Nat) : T3s (l.drop n) := fun p hp => h p (List.mem_of_mem_drop hp)
structure AR (w wr : World) (B1 : Nat) (a1 a2 a3 : Option Addr) (c1 c2 c3 : Nat) (x1 x2 x3 : List ByteArray) (T CL : List Ck) (v : Value) (sl : Nat -> Value) (f : T3) (M : List T3) : Prop where
 own : KO B1 wr v CL sl
 bel : Below w.heap.size w wr
 siz : B1 <= wr.heap.size
 lst : Rf wr w.heap.size [.slice a1 x1.length c1, .slice a2 x2.length c2, .slice a3 x3.length c3]
 frm : Rf wr (w.heap.size + 1) [.int .i64 (f.1 : Int), .int .i64 (f.2.1 : Int), .int .i64 (f.2.2 : Int)]
 eqn : CL ++ (segs (x1.length, x2.length, x3.length) f M).flatMap (ptK x1 x2 x3) = T
 ok : ∀ x ∈ segs (x1.length, x2.length, x3.length) f M, le3 x.1 x.2 /\ le3 x.2 (x1.length, x2.length, x3.length)
theorem Rf.grow {w w' : World} {b : Nat} {vs : List Value} {row : Option Nat} (h : Rf w b vs) (hg : w.grownBy w' row) (hb : b < w.heap.size) (hne : row ≠ some b) : Rf w' b vs := by
 have e := hg.block b hb (fun q => hne q.symm)
 refine ⟨fun k v hk => ?_, fun k => ?_⟩
 ·have := h.at_ k v hk
  unfold World.cell? at this ⊢
  rw [e]; exact this
 ·have := h.fz k
  unfold World.frozen? at this ⊢
  rw [e]; exact this
end Go.Proofs.YtcfnkndbhpdfnaaGreatDoor
namespace Go.Proofs.YtcfnkndbhpdfnaaGreatDoor
open Go.ChangeShapes Go.WideShapes Go.ChangeAt Go.RowKit
def slen : Value -> Nat
 | .slice _ n _ => n
 | _ => 0
theorem zcK {w w' : World} {g o : Nat} {v : Value} (b : Below w.heap.size w w') (h : w.cell? ⟨g, o, none⟩ = some v) : w'.cell? ⟨g, o, none⟩ = some v :=
 (Fr.ofBelow (lo := 0) (hi := 0) b).cell h (.inr (Nat.zero_le _))
def R2 (V : World) (p q : List Value) (s8 s9 : Value) (wx : World) : Prop := ∃ k8 k9 W', W' = wx /\ s8 = .pointer (some ⟨k8, 0, none⟩) /\ s9 = .pointer (some ⟨k9, 0, none⟩) /\ Rf W' k8 p /\ Rf W' k9 q /\ V.heap.size <= k8 /\ V.heap.size <= k9 /\ k8 < W'.heap.size /\ k9 < W'.heap.size /\ Below V.heap.size V W'
theorem Rf.set3 {w : World} {b : Nat} {x y z u v t : Value} (h : Rf w b [x, y, z]) : Rf (((w.setCell ⟨b, 0, none⟩ u).setCell ⟨b, 1, none⟩ v).setCell ⟨b, 2, none⟩ t) b [u, v, t] :=
 ((h.set (o := 0) (by simp) u).set (o := 1) (by simp) v).set (o := 2) (by simp) t
theorem Rf.off3 {w : World} {b k : Nat} {vs : List Value} {u v t : Value} (h : Rf w b vs) (hne : b ≠ k) : Rf (((w.setCell ⟨k, 0, none⟩ u).setCell ⟨k, 1, none⟩ v).setCell ⟨k, 2, none⟩ t) b vs :=
 ((h.other hne u).other hne v).other hne t
theorem size_set3 (w : World) (k : Nat) (u v t : Value) : (((w.setCell ⟨k, 0, none⟩ u).setCell ⟨k, 1, none⟩ v).setCell ⟨k, 2, none⟩ t).heap.size = w.heap.size := by simp
theorem below_set3 {B k : Nat} {a X : World} {v0 v1 v2 : Value} (h : Below B a X) (hk : B <= k) : Below B a (((X.setCell ⟨k, 0, none⟩ v0).setCell ⟨k, 1, none⟩ v1).setCell ⟨k, 2, none⟩ v2) :=
 ((h.setCell (p := ⟨k, 0, none⟩) hk _).setCell (p := ⟨k, 1, none⟩) hk _).setCell (p := ⟨k, 2, none⟩) hk _
structure Ahd (U w' : World) (k : Nat) : Prop where
 lt : k < w'.heap.size
 rf : Rf w' k [.int .i64 0, .int .i64 0, .int .i64 0]
 al : ∀ o, Rf (w'.alloc o) k [.int .i64 0, .int .i64 0, .int .i64 0]
theorem Ahd.mk' {U w' : World} {k : Nat} (h : Rf w' k [.int .i64 0, .int .i64 0, .int .i64 0]) (hk : k < w'.heap.size) : Ahd U w' k := ⟨hk, h, fun _ => h.below hk (allocBelow _ _)⟩
theorem ahead1 {U w' : World} {t : TypeId} (b : Below (U.alloc (.cells #[.int .i64 0, .int .i64 0, .int .i64 0] t)).heap.size (U.alloc (.cells #[.int .i64 0, .int .i64 0, .int .i64 0] t)) w') : Ahd U w' U.heap.size :=
 Ahd.mk' ((Rf.new U #[.int .i64 0, .int .i64 0, .int .i64 0] t).below (by simp) b) (Nat.lt_of_lt_of_le (by simp) b.size)
theorem ahead2 {U w' : World} {t t' : TypeId} (b : Below ((U.alloc (.cells #[.int .i64 0, .int .i64 0, .int .i64 0] t)).alloc (.cells #[.int .i64 0, .int .i64 0, .int .i64 0] t')).heap.size ((U.alloc (.cells #[.int .i64 0, .int .i64 0, .int .i64 0] t)).alloc (.cells #[.int .i64 0, .int .i64 0, .int .i64 0] t')) w') : Ahd U w' U.heap.size /\ Ahd U w' (U.heap.size + 1) := by
 have h1 := (Rf.new U #[.int .i64 0, .int .i64 0, .int .i64 0] t).below (by simp) (allocBelow _ (.cells #[.int .i64 0, .int .i64 0, .int .i64 0] t'))
 have h2 := Rf.new (U.alloc (.cells #[.int .i64 0, .int .i64 0, .int .i64 0] t)) #[.int .i64 0, .int .i64 0, .int .i64 0] t'
 rw [show (U.alloc (.cells #[.int .i64 0, .int .i64 0, .int .i64 0] t)).heap.size = U.heap.size + 1 by simp] at h2
 exact ⟨Ahd.mk' (h1.below (by simp; omega) b) (Nat.lt_of_lt_of_le (by simp; omega) b.size), Ahd.mk' (h2.below (by simp) b) (Nat.lt_of_lt_of_le (by simp) b.size)⟩
theorem R2.sets {V U : World} {k8 k9 : Nat} {x y z x' y' z' u v t u' v' t' : Value} (h8 : Rf U k8 [x, y, z]) (h9 : Rf U k9 [x', y', z']) (hne : k8 ≠ k9) (l8 : V.heap.size <= k8) (l9 : V.heap.size <= k9) (b8 : k8 < U.heap.size) (b9 : k9 < U.heap.size) (B : Below V.heap.size V U) :
  R2 V [u, v, t] [u', v', t'] (.pointer (some ⟨k8, 0, none⟩)) (.pointer (some ⟨k9, 0, none⟩)) ((((((U.setCell ⟨k8, 0, none⟩ u).setCell ⟨k8, 1, none⟩ v).setCell ⟨k8, 2, none⟩ t).setCell ⟨k9, 0, none⟩ u').setCell ⟨k9, 1, none⟩ v').setCell ⟨k9, 2, none⟩ t') :=
 ⟨k8, k9, _, rfl, rfl, rfl, (h8.set3).off3 hne, (h9.off3 (Ne.symm hne)).set3, l8, l9, by rw [size_set3, size_set3]; exact b8, by rw [size_set3, size_set3]; exact b9, below_set3 (below_set3 B l8) l9⟩
theorem R2.one {V U : World} {k8 k9 : Nat} {x' y' z' u v t u' v' t' : Value} (h8 : Rf U k8 [u, v, t]) (h9 : Rf U k9 [x', y', z']) (hne : k8 ≠ k9) (l8 : V.heap.size <= k8) (l9 : V.heap.size <= k9) (b8 : k8 < U.heap.size) (b9 : k9 < U.heap.size) (B : Below V.heap.size V U) :
  R2 V [u, v, t] [u', v', t'] (.pointer (some ⟨k8, 0, none⟩)) (.pointer (some ⟨k9, 0, none⟩)) (((U.setCell ⟨k9, 0, none⟩ u').setCell ⟨k9, 1, none⟩ v').setCell ⟨k9, 2, none⟩ t') :=
 ⟨k8, k9, _, rfl, rfl, rfl, h8.off3 hne, h9.set3, l8, l9, by rw [size_set3]; exact b8, by rw [size_set3]; exact b9, below_set3 B l9⟩
theorem R2.new {V U : World} {u v t u' v' t' : Value} {ty ty' : TypeId} (B : Below V.heap.size V U) (s : V.heap.size <= U.heap.size) :
  R2 V [u, v, t] [u', v', t'] (.pointer (some ⟨U.heap.size, 0, none⟩)) (.pointer (some ⟨U.heap.size + 1, 0, none⟩)) ((U.alloc (.cells #[u, v, t] ty)).alloc (.cells #[u', v', t'] ty')) := by
 have h1 := (Rf.new U #[u, v, t] ty).below (by simp) (allocBelow _ (.cells #[u', v', t'] ty'))
 have h2 := Rf.new (U.alloc (.cells #[u, v, t] ty)) #[u', v', t'] ty'
 rw [show (U.alloc (.cells #[u, v, t] ty)).heap.size = U.heap.size + 1 by simp] at h2
 exact ⟨_, _, _, rfl, rfl, rfl, h1, h2, s, by omega, by simp; omega, by simp, (B.alloc s _).alloc (by simp; omega) _⟩
theorem R2.newS {V U : World} {u v t u' v' t' : Value} {ty ty' : TypeId} (B : Below V.heap.size V U) (s : V.heap.size <= U.heap.size) :
  R2 V [u, v, t] [u', v', t'] (.pointer (some ⟨U.heap.size + 1, 0, none⟩)) (.pointer (some ⟨U.heap.size, 0, none⟩)) ((U.alloc (.cells #[u', v', t'] ty')).alloc (.cells #[u, v, t] ty)) := by
 have h1 := (Rf.new U #[u', v', t'] ty').below (by simp) (allocBelow _ (.cells #[u, v, t] ty))
 have h2 := Rf.new (U.alloc (.cells #[u', v', t'] ty')) #[u, v, t] ty
 rw [show (U.alloc (.cells #[u', v', t'] ty')).heap.size = U.heap.size + 1 by simp] at h2
 exact ⟨_, _, _, rfl, rfl, rfl, h2, h1, by omega, s, by simp, by simp; omega, (B.alloc s _).alloc (by simp; omega) _⟩
theorem TP.back {B : Nat} {w w' : World} {a : Option Addr} {l : List T3} (h : TP B w' a l) (hb : Below B w w') : TP B w a l := fun k hk => by
 obtain ⟨g, off, e, hg, d0, d1, d2⟩ := h k hk
 exact ⟨g, off, e, hg, (hb.cell (p := ⟨g, off + k * 3, none⟩) hg).symm.trans d0, (hb.cell (p := ⟨g, off + k * 3 + 1, none⟩) hg).symm.trans d1, (hb.cell (p := ⟨g, off + k * 3 + 2, none⟩) hg).symm.trans d2⟩
def KPost (T : List Ck) (w : World) (e : Ending) (w' : World) : Prop := ∃ v sl, e = .returned v /\ KO w.heap.size w' v T sl /\ Below w.heap.size w w'
set_option maxRecDepth 20000 in
set_option maxHeartbeats 8000000 in
theorem chunksAround (a1 a2 a3 : Option Addr) (c1 c2 c3 : Nat) (x1 x2 x3 : List ByteArray) (ka : Option Addr) (kc : Nat) (L : List T3) (w : World) (hX : X3 w.heap.size w a1 a2 a3 c1 c2 c3 x1 x2 x3) (hZ : Z3 c1 c2 c3 x1 x2 x3) (hK : TP w.heap.size w ka L) (hKc : L.length <= kc) (hKn : L.length <= 1048576) (hKs : T3s L)
  (hok : ∀ x ∈ segs (x1.length, x2.length, x3.length) (0, 0, 0) L, le3 x.1 x.2 /\ le3 x.2 (x1.length, x2.length, x3.length)) (hT : ((segs (x1.length, x2.length, x3.length) (0, 0, 0) L).flatMap (ptK x1 x2 x3)).length <= 1048576) :
  Calls Tryz.prog 157 #[.agg #[.slice a1 x1.length c1, .slice a2 x2.length c2, .slice a3 x3.length c3], .slice ka L.length kc] w fun e w' => KPost ((segs (x1.length, x2.length, x3.length) (0, 0, 0) L).flatMap (ptK x1 x2 x3)) w e w' := by
 have HT0 : Hid (([] : List Ck) ++ (segs (x1.length, x2.length, x3.length) (0, 0, 0) L).flatMap (ptK x1 x2 x3) = (segs (x1.length, x2.length, x3.length) (0, 0, 0) L).flatMap (ptK x1 x2 x3)) := rfl
 obtain ⟨T, hTe⟩ : ∃ T, (segs (x1.length, x2.length, x3.length) (0, 0, 0) L).flatMap (ptK x1 x2 x3) = T := ⟨_, rfl⟩
 rw [hTe] at hT ⊢
 have HT1 : Hid (([] : List Ck) ++ (segs (x1.length, x2.length, x3.length) (0, 0, 0) L).flatMap (ptK x1 x2 x3) = T) := by show _ = _; rw [List.nil_append, hTe]
 clear hTe HT0
 obtain ⟨W0, hW0⟩ : ∃ W, w.alloc (.cells #[.slice a1 x1.length c1, .slice a2 x2.length c2, .slice a3 x3.length c3] 194) = W := ⟨_, rfl⟩
 have B0 : Below w.heap.size w W0 := by rw [<- hW0]; exact allocBelow _ _
 have r0 : Rf W0 w.heap.size [.slice a1 x1.length c1, .slice a2 x2.length c2, .slice a3 x3.length c3] := by rw [<- hW0]; exact Rf.new _ _ _
 have z0 : W0.heap.size = w.heap.size + 1 := by rw [<- hW0]; simp
 obtain ⟨W1, hW1⟩ : ∃ W, W0.alloc (.cells #[.int .i64 0, .int .i64 0, .int .i64 0] 219) = W := ⟨_, rfl⟩
 have r1 : Rf W1 (w.heap.size + 1) [.int .i64 0, .int .i64 0, .int .i64 0] := by rw [<- hW1, <- z0]; exact Rf.new _ _ _
 have b1 : Below W0.heap.size W0 W1 := by rw [<- hW1]; exact allocBelow _ _
 have z1 : W1.heap.size = w.heap.size + 1 + 1 := by rw [<- hW1]; simp [z0]
 replace r0 := r0.below (by omega) b1
 have B1 : Below w.heap.size w W1 := B0.trans (b1.mono (by omega))
 have A0 : AR w W1 (w.heap.size + 1 + 1) a1 a2 a3 c1 c2 c3 x1 x2 x3 T [] (.slice none 0 0) (fun _ => .slice none 0 0) (0, 0, 0) L := ⟨KO.nil _ _ _, B1, by omega, r0, r1, HT1.out, hok⟩
 clear B0 b1 r0 r1 hok HT1
 have HZ1 : Hid (W1.heap.size = w.heap.size + 1 + 1) := z1
 clear z1
 go_enter Tryz.func157, Tryz.ntmps157
 go_wp2
 clear z0
 go_loopw [1, 5, 7, 8, 9] (fun s1 s5 _ _ _ wr => ∃ (M : List T3) (A : Option Addr) (mc : Nat) (f : T3) (CL : List Ck) (sl : Nat -> Value), s1 = .slice A M.length mc /\ M.length <= mc /\ M.length <= 1048576 /\ T3s M /\ TP w.heap.size wr A M /\ AR w wr (w.heap.size + 1 + 1) a1 a2 a3 c1 c2 c3 x1 x2 x3 T CL s5 sl f M) (fun s1 _ _ _ _ _ => slen s1)
 case atStart => exact ⟨L, ka, kc, (0, 0, 0), [], _, rfl, hKc, hKn, hKs, hK.belowAt (Nat.le_refl _) B1, A0⟩
 case round =>
  clear A0 B1 HZ1 hK hKs hKc hKn
  obtain ⟨M, A, mc, f, CL, sl, rfl, hMc, hMn, hMs, hMk, hA⟩ := hrel
  obtain ⟨f0, f1, f2⟩ := f
  obtain ⟨ra, rc, er⟩ := shapeK hA.own.row
  subst er
  have hsw := hA.bel.size
  have hsz := hA.siz
  cases M with
  | cons p r =>
   obtain ⟨p0, p1, p2⟩ := p
   have q : ((p0, p1, p2) :: r).length > 0 := by simp
   have q' : (0 : Int) < ((((p0, p1, p2) :: r).length : Nat) : Int) := by omega
   have hKT := fun W h => keptTogether A mc (p0, p1, p2) r ((p0, p1, p2) :: r) rfl W h hMs hMn
   have hlt0 : 0 < ((p0, p1, p2) :: r).length := by simp
   have hltm : tog (p0, p1, p2) r < ((p0, p1, p2) :: r).length := by have := tog_le r (p0, p1, p2); simp; omega
   have hat := tog_at r (p0, p1, p2)
   have hsm := hMs _ (t3_mem _ _ hltm)
   have hsg := hA.eqn
   have hk := hA.ok
   rw [segs_cons] at hsg hk
   have hk1 := hk _ (List.mem_cons_self ..)
   have hk2 := hk _ (List.mem_cons_of_mem _ (List.mem_cons_self ..))
   have hk3 := fun x hx => hk x (List.mem_cons_of_mem _ (List.mem_cons_of_mem _ hx))
   rw [List.flatMap_cons, List.flatMap_cons] at hsg
   rw [hat] at hsm
   have hdr : ((p0, p1, p2) :: r).drop (tog (p0, p1, p2) r + 1) = r.drop (tog (p0, p1, p2) r) := rfl
   obtain ⟨m, hm⟩ : ∃ m, tog (p0, p1, p2) r = m := ⟨_, rfl⟩
   rw [hm] at hKT hltm hat hsm hk2 hk3 hsg hdr
   obtain ⟨Y, hY⟩ : ∃ Y, ad (p0, p1, p2) (m + 1) = Y := ⟨_, rfl⟩
   rw [hY] at hsg hk2 hk3
   have hY0 : ad (p0, p1, p2) m = (p0 + m, p1 + m, p2 + m) := rfl
   have hY1 : Y = (p0 + m + 1, p1 + m + 1, p2 + m + 1) := hY.symm
   rw [hY0] at hat hsm
   rw [<- hdr] at hsg hk3
   obtain ⟨M, hM⟩ : ∃ M, (p0, p1, p2) :: r = M := ⟨_, rfl⟩
   have hM0 : M.getD 0 t3z = (p0, p1, p2) := by rw [<- hM]; rfl
   rw [hM] at q q' hKT hlt0 hltm hat hsg hk3 hMs hMn hMc hMk
   rw [hM]
   clear hm hk hdr hM hY0
   subst hY1
   obtain ⟨y0, hy0⟩ : ∃ y, p0 + m + 1 = y := ⟨_, rfl⟩
   obtain ⟨y1, hy1'⟩ : ∃ y, p1 + m + 1 = y := ⟨_, rfl⟩
   obtain ⟨y2, hy2'⟩ : ∃ y, p2 + m + 1 = y := ⟨_, rfl⟩
   rw [hy0, hy1', hy2'] at hsg hk2 hk3
   have gy0 : (p0 : Int) + (m : Int) + 1 = (y0 : Int) := by omega
   have gy1 : (p1 : Int) + (m : Int) + 1 = (y1 : Int) := by omega
   have gy2 : (p2 : Int) + (m : Int) + 1 = (y2 : Int) := by omega
   clear hy0 hy1' hy2'
   have hNx := fun W => nextC (p0 + m) (p1 + m) (p2 + m) W hsm.1 hsm.2.1 hsm.2.2
   go_wp2_with fail
   refine (hKT _ (hMk.mono hsw)).mono ?_; rintro e w2 ⟨rfl, b2⟩
   have s2 := b2.size
   have hMk2 := hMk.below b2
   obtain ⟨g, off, e, hg, d0, d1, d2⟩ := hMk2 0 hlt0
   obtain ⟨g', off', e', hg', e0, e1, e2⟩ := hMk2 m hltm
   rw [e] at e'
   simp only [Option.some.injEq, Addr.mk.injEq] at e'
   obtain ⟨rfl, rfl, _⟩ := e'
   subst e
   rw [hM0] at d0 d1 d2
   rw [hat] at e0 e1 e2
   simp only [Nat.zero_mul, Nat.add_zero] at d0 d1 d2 e0 e1 e2
   clear hKT hMk hat hM0
   have hmi : ((m : Int) + 1) - 1 = (m : Int) := by omega
   have hmw : IntKind.i64.wrap ((m : Int) + 1 - 1) = (m : Int) := by rw [IntKind.wrap_i64]; omega
   have hmw' : IntKind.i64.wrap (m : Int) = (m : Int) := by rw [IntKind.wrap_i64]; omega
   have hml : (m : Int) < (M.length : Int) := by omega
   go_upto_region 5 with fail
   go_cut [8, 9] from 15 to 24 (fun s8 s9 wx => R2 w2 [.int .i64 (p0 : Int), .int .i64 (p1 : Int), .int .i64 (p2 : Int)] [.int .i64 (y0 : Int), .int .i64 (y1 : Int), .int .i64 (y2 : Int)] s8 s9 wx)
   case first =>
    clear hA hX hZ hT hsg hk1 hk2 hk3 hMs hMn hMc hW0 hW1 hMk2
    have BD : Below w2.heap.size w2 w2.drew := (Below.refl _ _).drew
    have hcar : Hid (∀ W', Below w2.heap.size w2 W' -> W'.cell? ⟨g, off, none⟩ = some (.int .i64 (p0 : Int)) /\ W'.cell? ⟨g, off + 1, none⟩ = some (.int .i64 (p1 : Int)) /\ W'.cell? ⟨g, off + 2, none⟩ = some (.int .i64 (p2 : Int)) /\ W'.cell? ⟨g, off + m * 3, none⟩ = some (.int .i64 ((p0 + m : Nat) : Int)) /\ W'.cell? ⟨g, off + m * 3 + 1, none⟩ = some (.int .i64 ((p1 + m : Nat) : Int)) /\ W'.cell? ⟨g, off + m * 3 + 2, none⟩ = some (.int .i64 ((p2 + m : Nat) : Int))) := fun W' b => by
     have hl : g < w2.heap.size := by omega
     exact ⟨(b.cell (p := ⟨g, off, none⟩) hl).trans d0, (b.cell (p := ⟨g, off + 1, none⟩) hl).trans d1, (b.cell (p := ⟨g, off + 2, none⟩) hl).trans d2, (b.cell (p := ⟨g, off + m * 3, none⟩) hl).trans e0, (b.cell (p := ⟨g, off + m * 3 + 1, none⟩) hl).trans e1, (b.cell (p := ⟨g, off + m * 3 + 2, none⟩) hl).trans e2⟩
    have BA1 : Below w2.heap.size w2 (w2.alloc (.cells #[.int .i64 0, .int .i64 0, .int .i64 0] 219)).drew := below_drew (allocBelow _ _)
    have BA2 : Below w2.heap.size w2 ((w2.alloc (.cells #[.int .i64 0, .int .i64 0, .int .i64 0] 219)).alloc (.cells #[.int .i64 0, .int .i64 0, .int .i64 0] 219)).drew := below_drew ((allocBelow _ _).alloc (by simp) _)
    go_region_held (fun W' => W'.cell? ⟨g, off, none⟩ = some (.int .i64 (p0 : Int)) /\ W'.cell? ⟨g, off + 1, none⟩ = some (.int .i64 (p1 : Int)) /\ W'.cell? ⟨g, off + 2, none⟩ = some (.int .i64 (p2 : Int)) /\ W'.cell? ⟨g, off + m * 3, none⟩ = some (.int .i64 ((p0 + m : Nat) : Int)) /\ W'.cell? ⟨g, off + m * 3 + 1, none⟩ = some (.int .i64 ((p1 + m : Nat) : Int)) /\ W'.cell? ⟨g, off + m * 3 + 2, none⟩ = some (.int .i64 ((p2 + m : Nat) : Int)))
     (first | with_reducible exact ⟨d0, d1, d2, e0, e1, e2⟩ | with_reducible exact hcar.out _ BD | with_reducible exact hcar.out _ BA1 | with_reducible exact hcar.out _ BA2 | with_reducible exact hcar.out _ BX | with_reducible exact hcar.out _ (BX.alloc BXs _) | with_reducible exact hcar.out _ ((BX.alloc BXs _).alloc (by simp only [World.size_alloc]; omega) _) | with_reducible exact hcar.out _ (below_set3 BX (by omega)) | with_reducible exact hcar.out _ (below_set3 (BX.alloc BXs _) (by omega)) | with_reducible exact hcar.out _ (below_set3 ((BX.alloc BXs _).alloc (by simp only [World.size_alloc]; omega) _) (by omega)) | with_reducible exact hcar.out _ (below_set3 (below_set3 BX (by omega)) (by omega)) | with_reducible exact hcar.out _ (below_set3 (below_set3 (BX.alloc BXs _) (by omega)) (by omega)) | with_reducible exact hcar.out _ (below_set3 (below_set3 ((BX.alloc BXs _).alloc (by simp only [World.size_alloc]; omega) _) (by omega)) (by omega)) | exact hcar.out _ BD)
     ((go_at_call 174; refine (hNx _).mono ?_; rintro e w' ⟨rfl, b3⟩; (first | (have c3 : Below ((w2.alloc (.cells #[.int .i64 0, .int .i64 0, .int .i64 0] 219)).alloc (.cells #[.int .i64 0, .int .i64 0, .int .i64 0] 219)).drew.heap.size ((w2.alloc (.cells #[.int .i64 0, .int .i64 0, .int .i64 0] 219)).alloc (.cells #[.int .i64 0, .int .i64 0, .int .i64 0] 219)).drew w' := (by with_reducible exact b3); have BX : Below w2.heap.size w2 w' := BA2.trans (c3.mono (by show w2.heap.size <= ((w2.alloc (.cells #[.int .i64 0, .int .i64 0, .int .i64 0] 219)).alloc (.cells #[.int .i64 0, .int .i64 0, .int .i64 0] 219)).heap.size; simp only [World.size_alloc]; omega)); have BXs := BX.size; have A2 := ahead2 (U := w2) (w' := w') (t := 219) (t' := 219) ((Below.refl _ _).drew.trans c3); have A8 : Ahd w2 w' w2.heap.size := ⟨A2.1.lt, A2.1.rf, A2.1.al⟩; have A9 : Ahd w2 w' (w2.heap.size + 1) := ⟨A2.2.lt, A2.2.rf, A2.2.al⟩; have kp0 : w'.cell? ⟨w2.heap.size, 0, none⟩ = some (.int .i64 0) := A8.rf.at_ 0 _ rfl; have vp0 : w'.frozen? ⟨w2.heap.size, 0, none⟩ = false := A8.rf.fz 0; have mp0 : ∀ o, (w'.alloc o).cell? ⟨w2.heap.size, 0, none⟩ = some (.int .i64 0) := fun o => (A8.al o).at_ 0 _ rfl; have up0 : ∀ o, (w'.alloc o).frozen? ⟨w2.heap.size, 0, none⟩ = false := fun o => (A8.al o).fz 0; have kp1 : w'.cell? ⟨w2.heap.size, 1, none⟩ = some (.int .i64 0) := A8.rf.at_ 1 _ rfl; have vp1 : w'.frozen? ⟨w2.heap.size, 1, none⟩ = false := A8.rf.fz 1; have mp1 : ∀ o, (w'.alloc o).cell? ⟨w2.heap.size, 1, none⟩ = some (.int .i64 0) := fun o => (A8.al o).at_ 1 _ rfl; have up1 : ∀ o, (w'.alloc o).frozen? ⟨w2.heap.size, 1, none⟩ = false := fun o => (A8.al o).fz 1; have kp2 : w'.cell? ⟨w2.heap.size, 2, none⟩ = some (.int .i64 0) := A8.rf.at_ 2 _ rfl; have vp2 : w'.frozen? ⟨w2.heap.size, 2, none⟩ = false := A8.rf.fz 2; have mp2 : ∀ o, (w'.alloc o).cell? ⟨w2.heap.size, 2, none⟩ = some (.int .i64 0) := fun o => (A8.al o).at_ 2 _ rfl; have up2 : ∀ o, (w'.alloc o).frozen? ⟨w2.heap.size, 2, none⟩ = false := fun o => (A8.al o).fz 2; have np : w2.heap.size ≠ w'.heap.size := Nat.ne_of_lt A8.lt; have op : w'.heap.size ≠ w2.heap.size := fun e => Nat.ne_of_lt A8.lt e.symm; have kq0 : w'.cell? ⟨(w2.heap.size + 1), 0, none⟩ = some (.int .i64 0) := A9.rf.at_ 0 _ rfl; have vq0 : w'.frozen? ⟨(w2.heap.size + 1), 0, none⟩ = false := A9.rf.fz 0; have mq0 : ∀ o, (w'.alloc o).cell? ⟨(w2.heap.size + 1), 0, none⟩ = some (.int .i64 0) := fun o => (A9.al o).at_ 0 _ rfl; have uq0 : ∀ o, (w'.alloc o).frozen? ⟨(w2.heap.size + 1), 0, none⟩ = false := fun o => (A9.al o).fz 0; have kq1 : w'.cell? ⟨(w2.heap.size + 1), 1, none⟩ = some (.int .i64 0) := A9.rf.at_ 1 _ rfl; have vq1 : w'.frozen? ⟨(w2.heap.size + 1), 1, none⟩ = false := A9.rf.fz 1; have mq1 : ∀ o, (w'.alloc o).cell? ⟨(w2.heap.size + 1), 1, none⟩ = some (.int .i64 0) := fun o => (A9.al o).at_ 1 _ rfl; have uq1 : ∀ o, (w'.alloc o).frozen? ⟨(w2.heap.size + 1), 1, none⟩ = false := fun o => (A9.al o).fz 1; have kq2 : w'.cell? ⟨(w2.heap.size + 1), 2, none⟩ = some (.int .i64 0) := A9.rf.at_ 2 _ rfl; have vq2 : w'.frozen? ⟨(w2.heap.size + 1), 2, none⟩ = false := A9.rf.fz 2; have mq2 : ∀ o, (w'.alloc o).cell? ⟨(w2.heap.size + 1), 2, none⟩ = some (.int .i64 0) := fun o => (A9.al o).at_ 2 _ rfl; have uq2 : ∀ o, (w'.alloc o).frozen? ⟨(w2.heap.size + 1), 2, none⟩ = false := fun o => (A9.al o).fz 2; have nq : (w2.heap.size + 1) ≠ w'.heap.size := Nat.ne_of_lt A9.lt; have oq : w'.heap.size ≠ (w2.heap.size + 1) := fun e => Nat.ne_of_lt A9.lt e.symm) | (have c3 : Below (w2.alloc (.cells #[.int .i64 0, .int .i64 0, .int .i64 0] 219)).drew.heap.size (w2.alloc (.cells #[.int .i64 0, .int .i64 0, .int .i64 0] 219)).drew w' := (by with_reducible exact b3); have BX : Below w2.heap.size w2 w' := BA1.trans (c3.mono (by show w2.heap.size <= (w2.alloc (.cells #[.int .i64 0, .int .i64 0, .int .i64 0] 219)).heap.size; simp only [World.size_alloc]; omega)); have BXs := BX.size; have A1 := ahead1 (U := w2) (w' := w') (t := 219) ((Below.refl _ _).drew.trans c3); have A8 : Ahd w2 w' w2.heap.size := ⟨A1.lt, A1.rf, A1.al⟩; have kp0 : w'.cell? ⟨w2.heap.size, 0, none⟩ = some (.int .i64 0) := A8.rf.at_ 0 _ rfl; have vp0 : w'.frozen? ⟨w2.heap.size, 0, none⟩ = false := A8.rf.fz 0; have mp0 : ∀ o, (w'.alloc o).cell? ⟨w2.heap.size, 0, none⟩ = some (.int .i64 0) := fun o => (A8.al o).at_ 0 _ rfl; have up0 : ∀ o, (w'.alloc o).frozen? ⟨w2.heap.size, 0, none⟩ = false := fun o => (A8.al o).fz 0; have kp1 : w'.cell? ⟨w2.heap.size, 1, none⟩ = some (.int .i64 0) := A8.rf.at_ 1 _ rfl; have vp1 : w'.frozen? ⟨w2.heap.size, 1, none⟩ = false := A8.rf.fz 1; have mp1 : ∀ o, (w'.alloc o).cell? ⟨w2.heap.size, 1, none⟩ = some (.int .i64 0) := fun o => (A8.al o).at_ 1 _ rfl; have up1 : ∀ o, (w'.alloc o).frozen? ⟨w2.heap.size, 1, none⟩ = false := fun o => (A8.al o).fz 1; have kp2 : w'.cell? ⟨w2.heap.size, 2, none⟩ = some (.int .i64 0) := A8.rf.at_ 2 _ rfl; have vp2 : w'.frozen? ⟨w2.heap.size, 2, none⟩ = false := A8.rf.fz 2; have mp2 : ∀ o, (w'.alloc o).cell? ⟨w2.heap.size, 2, none⟩ = some (.int .i64 0) := fun o => (A8.al o).at_ 2 _ rfl; have up2 : ∀ o, (w'.alloc o).frozen? ⟨w2.heap.size, 2, none⟩ = false := fun o => (A8.al o).fz 2; have np : w2.heap.size ≠ w'.heap.size := Nat.ne_of_lt A8.lt; have op : w'.heap.size ≠ w2.heap.size := fun e => Nat.ne_of_lt A8.lt e.symm) | (have c3 : Below w2.drew.heap.size w2.drew w' := (by with_reducible exact b3); have BX : Below w2.heap.size w2 w' := BD.trans c3; have BXs := BX.size))))
    all_goals (go_wp2_with fail; go_meet)
    all_goals first
     | with_reducible exact R2.new BX BXs
     | with_reducible exact R2.newS BX BXs
     | with_reducible exact R2.sets A8.rf A9.rf (by omega) (Nat.le_refl _) (Nat.le_succ _) A8.lt A9.lt BX
     | with_reducible exact R2.sets A9.rf A8.rf (by omega) (Nat.le_succ _) (Nat.le_refl _) A9.lt A8.lt BX
     | with_reducible exact R2.sets (A8.al _) (Rf.new w' _ _) (Nat.ne_of_lt A8.lt) (Nat.le_refl _) BXs (Nat.lt_of_lt_of_le A8.lt (by simp)) (by simp) (BX.alloc BXs _)
     | with_reducible exact R2.one (Rf.new w' _ _) (A8.al _) (Ne.symm (Nat.ne_of_lt A8.lt)) BXs (Nat.le_refl _) (by simp) (Nat.lt_of_lt_of_le A8.lt (by simp)) (BX.alloc BXs _)
   case rest =>
   obtain ⟨k8, k9, V5, rfl, rfl, rfl, r8, r9, l8, l9, u8, u9, b5⟩ := hcut
   have hMkw := hMk2.back (below_step hA.bel hsw b2)
   have s5 := b5.size
   have B5 : Below wr.heap.size wr V5 := b2.trans (b5.mono s2)
   have hO5 := hA.own.below B5
   have hbel5 := below_step hA.bel hsw B5
   have lst5 := hA.lst.below (by omega) B5
   have frm5 := hA.frm.below (by omega) B5
   have hVb : ∀ b, (Value.slice ra CL.length rc).ownBlock = some b -> w.heap.size + 1 + 1 <= b /\ b < wr.heap.size := fun b hb => hA.own.row.lt b hb
   have lt1 : w.heap.size < wr.heap.size := by omega
   have lt2 : w.heap.size + 1 < wr.heap.size := by omega
   obtain ⟨hle1, hleE1⟩ := hk1
   obtain ⟨hle2, hleE2⟩ := hk2
   try simp only [] at hle1 hleE1 hle2 hleE2
   have hlenA : CL.length <= 1048576 /\ (CL ++ ptK x1 x2 x3 ((f0, f1, f2), (p0, p1, p2))).length <= 1048576 := by
    have h := hT
    rw [<- hsg] at h
    simp only [List.length_append] at h ⊢
    omega
   have L0 := lst5.at_ 0 _ rfl
   have L1 := lst5.at_ 1 _ rfl
   have L2 := lst5.at_ 2 _ rfl
   have F0 := frm5.at_ 0 _ rfl
   have F1 := frm5.at_ 1 _ rfl
   have F2 := frm5.at_ 2 _ rfl
   have G0 := r8.at_ 0 _ rfl
   have G1 := r8.at_ 1 _ rfl
   have G2 := r8.at_ 2 _ rfl
   have hBt := fun W => betweenC a1 a2 a3 x1.length x2.length x3.length c1 c2 c3 f0 f1 f2 p0 p1 p2 W hle1.1 hle1.2.1 hle1.2.2 hleE1.1 hleE1.2.1 hleE1.2.2 hZ.k1 hZ.k2 hZ.k3
   have hBt2 := fun W => betweenC a1 a2 a3 x1.length x2.length x3.length c1 c2 c3 p0 p1 p2 y0 y1 y2 W hle2.1 hle2.2.1 hle2.2.2 hleE2.1 hleE2.2.1 hleE2.2.2 hZ.k1 hZ.k2 hZ.k3
   clear hA d0 d1 d2 e0 e1 e2 hNx hmi hmw hmw' b2 hW0 hW1 gy0 gy1 gy2
   go_wp2_with fail
   refine (hBt _).mono ?_; rintro e w6 ⟨rfl, b6⟩
   have s6 := b6.size
   have hbel6 := below_step hbel5 (by omega) b6
   have hAp := appendSeg (w.heap.size + 1 + 1) (.slice ra CL.length rc) CL sl a1 a2 a3 c1 c2 c3 x1 x2 x3 f0 f1 f2 p0 p1 p2 w6 w.heap.size (hO5.below b6) (by omega) (hX.belowAt hbel6) (by omega) hZ hlenA.1 hle1 hleE1
   clear hBt L0 L1 L2 F0 F1 F2 G0 G1 G2
   go_wp2_with fail
   refine hAp.mono ?_; rintro e w7 ⟨v7, sl7, rfl, hO7, g7, k7⟩
   have s7 := g7.size
   obtain ⟨ra7, rc7, er7⟩ := shapeK hO7.row
   subst er7
   have hbel7 : Below w.heap.size w w7 := hbel6.grown g7 (by omega) (fun b hb => by have := (hVb b hb).1; omega)
   have hnr : ∀ k, (k < w.heap.size + 1 + 1 \/ wr.heap.size <= k) -> (Value.slice ra CL.length rc).ownBlock ≠ some k := fun k hk e => by have := hVb k e; omega
   have lst7 := (lst5.below (by omega) b6).grow g7 (by omega) (hnr _ (by omega))
   have frm7 := (frm5.below (by omega) b6).grow g7 (by omega) (hnr _ (by omega))
   have r87 := (r8.below (by omega) b6).grow g7 (by omega) (hnr _ (by omega))
   have r97 := (r9.below (by omega) b6).grow g7 (by omega) (hnr _ (by omega))
   have L0 := lst7.at_ 0 _ rfl
   have L1 := lst7.at_ 1 _ rfl
   have L2 := lst7.at_ 2 _ rfl
   have G0 := r87.at_ 0 _ rfl
   have G1 := r87.at_ 1 _ rfl
   have G2 := r87.at_ 2 _ rfl
   have I0 := r97.at_ 0 _ rfl
   have I1 := r97.at_ 1 _ rfl
   have I2 := r97.at_ 2 _ rfl
   have hv7 : ∀ b, (Value.slice ra7 (CL ++ ptK x1 x2 x3 ((f0, f1, f2), (p0, p1, p2))).length rc7).ownBlock = some b -> w.heap.size + 1 + 1 <= b /\ b ≠ k8 /\ b ≠ k9 /\ b < w7.heap.size := fun b hb => by
    have h1 := hO7.row.lt b hb
    refine ⟨h1.1, ?_, ?_, h1.2⟩
    ·rcases k7 with e | ⟨c, e, hc⟩
     ·rw [e] at hb; have := hVb b hb; omega
     ·rw [e] at hb; cases hb; omega
    ·rcases k7 with e | ⟨c, e, hc⟩
     ·rw [e] at hb; have := hVb b hb; omega
     ·rw [e] at hb; cases hb; omega
   obtain ⟨C7, hC7⟩ : ∃ C, CL ++ ptK x1 x2 x3 ((f0, f1, f2), (p0, p1, p2)) = C := ⟨_, rfl⟩
   rw [<- List.append_assoc, hC7] at hsg
   have hlenB := hlenA.2
   rw [hC7] at hO7 hv7 hlenB
   rw [hC7]
   clear hAp hC7 hlenA hO5 g7 k7 hnr hVb b6 lst5 frm5 r8 r9 b5 B5
   go_wp2_with fail
   refine (hBt2 _).mono ?_; rintro e w8 ⟨rfl, b8⟩
   have s8 := b8.size
   have hbel8 := below_step hbel7 (by omega) b8
   have hAp := appendSeg (w.heap.size + 1 + 1) (.slice ra7 C7.length rc7) C7 sl7 a1 a2 a3 c1 c2 c3 x1 x2 x3 p0 p1 p2 y0 y1 y2 w8 w.heap.size (hO7.below b8) (by omega) (hX.belowAt hbel8) (by omega) hZ hlenB hle2 hleE2
   clear hBt2 L0 L1 L2 G0 G1 G2 I0 I1 I2
   go_wp2_with fail
   refine hAp.mono ?_; rintro e w9 ⟨v9, sl9, rfl, hO9, g9, k9'⟩
   have s9 := g9.size
   obtain ⟨ra9, rc9, er9⟩ := shapeK hO9.row
   subst er9
   have hbel9 : Below w.heap.size w w9 := hbel8.grown g9 (by omega) (fun b hb => by have := (hv7 b hb).1; omega)
   have hn8 : ∀ k, (k < w.heap.size + 1 + 1 \/ k = k9) -> (Value.slice ra7 C7.length rc7).ownBlock ≠ some k := fun k hk e => by have := hv7 k e; omega
   have lst9 := (lst7.below (by omega) b8).grow g9 (by omega) (hn8 _ (by omega))
   have frm9 := (frm7.below (by omega) b8).grow g9 (by omega) (hn8 _ (by omega))
   have r99 := (r97.below (by omega) b8).grow g9 (by omega) (hn8 _ (by omega))
   obtain ⟨C9, hC9⟩ : ∃ C, C7 ++ ptK x1 x2 x3 ((p0, p1, p2), (y0, y1, y2)) = C := ⟨_, rfl⟩
   rw [<- List.append_assoc, hC9] at hsg
   rw [hC9] at hO9
   rw [hC9]
   have I0 := r99.at_ 0 _ rfl
   have I1 := r99.at_ 1 _ rfl
   have I2 := r99.at_ 2 _ rfl
   have F0 := frm9.at_ 0 _ rfl
   have F1 := frm9.at_ 1 _ rfl
   have F2 := frm9.at_ 2 _ rfl
   have Z0 := frm9.fz 0
   have Z1 := frm9.fz 1
   have Z2 := frm9.fz 2
   clear hAp hC9 hlenB hO7 g9 k9' hn8 hv7 b8 lst7 frm7 r87 r97
   -- the place to go on from, and the kept places that are left
   obtain ⟨W9, hW9⟩ : ∃ W, ((w9.setCell ⟨w.heap.size + 1, 0, none⟩ (.int .i64 (y0 : Int))).setCell ⟨w.heap.size + 1, 1, none⟩ (.int .i64 (y1 : Int))).setCell ⟨w.heap.size + 1, 2, none⟩ (.int .i64 (y2 : Int)) = W := ⟨_, rfl⟩
   have HB : Hid (Below w.heap.size w W9) := by show Below _ _ _; rw [<- hW9]; exact below_set3 hbel9 (by omega)
   have HF : Hid (Rf W9 (w.heap.size + 1) [.int .i64 (y0 : Int), .int .i64 (y1 : Int), .int .i64 (y2 : Int)]) := by show Rf _ _ _; rw [<- hW9]; exact frm9.set3
   have HL : Hid (Rf W9 w.heap.size [.slice a1 x1.length c1, .slice a2 x2.length c2, .slice a3 x3.length c3]) := by show Rf _ _ _; rw [<- hW9]; exact lst9.off3 (by omega)
   have HS : Hid (W9.heap.size = w9.heap.size) := by show _ = _; rw [<- hW9]; exact size_set3 ..
   have HO : Hid (KO (w.heap.size + 1 + 1) W9 (.slice ra9 C9.length rc9) C9 sl9) := by
    show KO _ _ _ _ _
    rw [<- hW9]
    have G := grownTrans (grownTrans (grownSet w9 (w.heap.size + 1) 0 (.int .i64 (y0 : Int))) (grownSet _ (w.heap.size + 1) 1 (.int .i64 (y1 : Int)))) (grownSet _ (w.heap.size + 1) 2 (.int .i64 (y2 : Int)))
    exact hO9.fr (Fr.ofGrown (lo := w.heap.size + 1) (hi := w.heap.size + 1 + 1) G (fun j hj => by cases hj; omega)) (fun j hj => by have := (hO9.row.lt j hj).1; omega) (fun n hn j hj => by have := ((hO9.each n hn).lt j hj).1; omega)
   have HK9 : Hid (TP w.heap.size W9 (if mc = m + 1 then some (⟨g, off, none⟩ : Addr) else Option.map (fun x : Addr => x.add ((m + 1) * 3)) (some (⟨g, off, none⟩ : Addr))) (M.drop (m + 1))) := (hMkw.belowAt (Nat.le_refl _) HB.out).seg (m + 1) mc hMc
   obtain ⟨AK, hAK⟩ : ∃ A, (if mc = m + 1 then some (⟨g, off, none⟩ : Addr) else Option.map (fun x : Addr => x.add ((m + 1) * 3)) (some (⟨g, off, none⟩ : Addr))) = A := ⟨_, rfl⟩
   rw [hAK] at HK9
   have hAK2 : (if mc = m + 1 then (some ⟨g, off, none⟩ : Option Addr) else some ⟨g, off + (m + 1) * 3, none⟩) = AK := by rw [<- hAK, Option.map_some, add_plain]
   have hml2 : m + 1 <= M.length := by omega
   have hml3 : (m : Int) + 1 <= (M.length : Int) := by omega
   have hmc2 : m + 1 <= mc := by omega
   have hmn : ((m : Int) + 1).toNat = m + 1 := by omega
   have HD : Hid ((M.drop (m + 1)).length = M.length - (m + 1)) := List.length_drop ..
   have HE : Hid (C9 ++ (segs (x1.length, x2.length, x3.length) (y0, y1, y2) (M.drop (m + 1))).flatMap (ptK x1 x2 x3) = T) := hsg
   have HK3 : Hid (∀ x ∈ segs (x1.length, x2.length, x3.length) (y0, y1, y2) (M.drop (m + 1)), le3 x.1 x.2 /\ le3 x.2 (x1.length, x2.length, x3.length)) := hk3
   clear hMkw hMk2 hsg hk3 hO9 hbel9 lst9 frm9 r99
   go_wp2
   go_region
   go_wp2
   go_roundw
   case rel =>
    have hdd : Below w.heap.size W9 W9.drew := (Below.refl _ _).drew
    refine ⟨M.drop (m + 1), AK, mc - (m + 1), (y0, y1, y2), C9, sl9, by rw [HD.out], by rw [HD.out]; omega, by rw [HD.out]; omega, hMs.drop _, HK9.out.belowAt (Nat.le_refl _) hdd, HO.out.below ((Below.refl _ _).drew), below_drew HB.out, ?_, ⟨HL.out.at_, HL.out.fz⟩, ⟨HF.out.at_, HF.out.fz⟩, HE.out, HK3.out⟩
    show w.heap.size + 1 + 1 <= W9.heap.size
    rw [HS.out]; omega
   case measure => show M.length - (m + 1) < M.length; omega
  | nil =>
   have hE := hA.eqn
   have hk := hA.ok
   rw [segs_nil] at hE hk
   have hk1 := hk _ (List.mem_cons_self ..)
   obtain ⟨hle1, hleE1⟩ := hk1
   try simp only [] at hle1 hleE1
   rw [List.flatMap_cons, List.flatMap_nil, List.append_nil] at hE
   have hlen : CL.length <= 1048576 := by
    have h := hT
    rw [<- hE] at h
    simp only [List.length_append] at h
    omega
   have hO := hA.own
   have hbel := hA.bel
   have hVb : ∀ b, (Value.slice ra CL.length rc).ownBlock = some b -> w.heap.size + 1 + 1 <= b := fun b hb => (hO.row.lt b hb).1
   have hBt := fun W => betweenC a1 a2 a3 x1.length x2.length x3.length c1 c2 c3 f0 f1 f2 x1.length x2.length x3.length W hle1.1 hle1.2.1 hle1.2.2 hleE1.1 hleE1.2.1 hleE1.2.2 hZ.k1 hZ.k2 hZ.k3
   have hAp : Hid (∀ W, Below wr.heap.size wr W -> Calls Tryz.prog 175 #[.slice ra CL.length rc, .agg #[segV a1 c1 f0 x1.length, segV a2 c2 f1 x2.length, segV a3 c3 f2 x3.length]] W fun e w' => PutQ (w.heap.size + 1 + 1) (.slice ra CL.length rc) T W e w') := fun W b => by
    have h := appendSeg (w.heap.size + 1 + 1) (.slice ra CL.length rc) CL sl a1 a2 a3 c1 c2 c3 x1 x2 x3 f0 f1 f2 x1.length x2.length x3.length W w.heap.size (hO.below b) (by have := b.size; omega) (hX.belowAt (below_step hbel hsw b)) (by have := b.size; omega) hZ hlen hle1 hleE1
    rw [hE] at h
    exact h
   have L0 := hA.lst.at_ 0 _ rfl
   have L1 := hA.lst.at_ 1 _ rfl
   have L2 := hA.lst.at_ 2 _ rfl
   have F0 := hA.frm.at_ 0 _ rfl
   have F1 := hA.frm.at_ 1 _ rfl
   have F2 := hA.frm.at_ 2 _ rfl
   have q : ¬ ((0 : Int) < 0) := by omega
   clear hA hE hk hle1 hleE1 hlen hO hX hZ hT hMs hMn hMc hMk hW0 hW1
   go_upto_region 9 with fail
   have BD : Below wr.heap.size wr wr.drew := (Below.refl _ _).drew
   go_region_held (fun W' => W'.cell? ⟨w.heap.size, 0, none⟩ = some (.slice a1 x1.length c1) /\ W'.cell? ⟨w.heap.size, 1, none⟩ = some (.slice a2 x2.length c2) /\ W'.cell? ⟨w.heap.size, 2, none⟩ = some (.slice a3 x3.length c3) /\ W'.cell? ⟨w.heap.size + 1, 0, none⟩ = some (.int .i64 (f0 : Int)) /\ W'.cell? ⟨w.heap.size + 1, 1, none⟩ = some (.int .i64 (f1 : Int)) /\ W'.cell? ⟨w.heap.size + 1, 2, none⟩ = some (.int .i64 (f2 : Int))) (first | with_reducible exact ⟨L0, L1, L2, F0, F1, F2⟩ | exact ⟨L0, L1, L2, F0, F1, F2⟩)
    ((first
     | (go_at_call 177; refine (endsC a1 a2 a3 x1.length x2.length x3.length c1 c2 c3 _).mono ?_; rintro e w' ⟨rfl, b⟩; have L0 := zcK b L0; have L1 := zcK b L1; have L2 := zcK b L2; have F0 := zcK b F0; have F1 := zcK b F1; have F2 := zcK b F2; have BD := below_step BD (by have := BD.size; omega) b; clear b)
     | (go_at_call 176; refine (hBt _).mono ?_; rintro e w' ⟨rfl, b⟩; have L0 := zcK b L0; have L1 := zcK b L1; have L2 := zcK b L2; have F0 := zcK b F0; have F1 := zcK b F1; have F2 := zcK b F2; have BD := below_step BD (by have := BD.size; omega) b; clear b)
     | (go_at_call 175; refine (hAp.out _ BD).mono ?_; rintro e w' ⟨v9, sl9, rfl, O9, g9, k9⟩; have L0 := g9.cell L0 (fun e => absurd (hVb w.heap.size e.symm) (by omega)); have L1 := g9.cell L1 (fun e => absurd (hVb w.heap.size e.symm) (by omega)); have L2 := g9.cell L2 (fun e => absurd (hVb w.heap.size e.symm) (by omega)); have F0 := g9.cell F0 (fun e => absurd (hVb (w.heap.size + 1) e.symm) (by omega)); have F1 := g9.cell F1 (fun e => absurd (hVb (w.heap.size + 1) e.symm) (by omega)); have F2 := g9.cell F2 (fun e => absurd (hVb (w.heap.size + 1) e.symm) (by omega)))))
   all_goals
    have s9 := g9.size
    have sB := BD.size
    have HF : Hid (KPost T w (.returned v9) w') := ⟨v9, sl9, rfl, O9.mono (by omega), (below_step hbel hsw BD).grown g9 (by omega) (fun b hb => by have := hVb b hb; omega)⟩
    obtain ⟨ra9, rc9, er9⟩ := shapeK O9.row
    subst er9
    clear O9 g9 k9 hAp hBt L0 L1 L2 F0 F1 F2 hVb
    go_wp2
    go_ret
    exact HF.out
end Go.Proofs.YtcfnkndbhpdfnaaGreatDoor
