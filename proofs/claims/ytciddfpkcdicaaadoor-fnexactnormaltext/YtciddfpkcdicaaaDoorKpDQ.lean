/- The contracts of appendChunk and of l4Put, bare or not. No statement is proved here. -/
import Derived.Test.YtciddfpkcdicaaaDoorRows
import Derived.Test.YtciddfpkcdicaaaDoorLemQ
import Derived.Test.YtciddfpkcdicaaaDoorDTabQ
import Derived.Test.YtciddfpkcdicaaaDoorInQ
import Derived.Test.YtciddfpkcdicaaaDoorHkTQ
import Derived.Test.YtciddfpkcdicaaaDoorCkLQ
import Derived.Test.YtciddfpkcdicaaaDoorCkCQ
import Derived.Test.YtciddfpkcdicaaaDoorCkBQ
import Derived.Test.YtciddfpkcdicaaaDoorCkNQ
import Derived.Test.YtciddfpkcdicaaaDoorCkPQ
import Derived.WalkKit
import Derived.ProofKit
import Derived.Below
import Derived.WalkSpells
import Derived.Maps.AppendAt
import Derived.Test.YtciddfpkcdicaaaDoorWvCQ
import Derived.Test.YtciddfpkcdicaaaDoorKpMQ
import Derived.Test.YtciddfpkcdicaaaDoorKpAQ
import Derived.Test.YtciddfpkcdicaaaDoorKpBQ
import Derived.Deep.QuietTactic
import Derived.BigQuiet
import Derived.Deep.RegionWith
import Derived.Deep.RegionHeld
import Derived.Deep.Cut
import Derived.Deep.CutRange
namespace Go.Proofs.YtciddfpkcdicaaaDoor
open Go.ChangeShapes Go.WideShapes Go.ChangeAt Go.RowKit

/-- What a piece of three texts puts to the chunks: nothing where it is bare. -/
def putK (x1 x2 x3 : List ByteArray) : List Ck := if bare (0, x1, x2, x3) = true then [] else [(kd x1 x2 x3, x1, x2, x3)]
theorem bare_any (k : Int) (x1 x2 x3 : List ByteArray) : bare (k, x1, x2, x3) = bare (0, x1, x2, x3) := rfl
theorem putK_yes {x1 x2 x3 : List ByteArray} (h : bare (0, x1, x2, x3) = true) : putK x1 x2 x3 = [] := if_pos h
theorem putK_no {x1 x2 x3 : List ByteArray} (h : bare (0, x1, x2, x3) = false) : putK x1 x2 x3 = [(kd x1 x2 x3, x1, x2, x3)] := if_neg (by rw [h]; decide)
/-- As PutP; and where the row lies then. -/
def PutQ (base : Nat) (v : Value) (L : List Ck) (w : World) (e : Ending) (w' : World) : Prop := ∃ v' sl', e = .returned v' ∧ KO base w' v' L sl' ∧ w.grownBy w' v.ownBlock ∧ (v'.ownBlock = v.ownBlock ∨ ∃ b, v'.ownBlock = some b ∧ w.heap.size ≤ b)
set_option maxRecDepth 20000 in
set_option maxHeartbeats 4000000 in
theorem appendChunk (base : Nat) (v : Value) (L : List Ck) (sl : Nat → Value) (a1 a2 a3 : Option Addr) (c1 c2 c3 : Nat) (x1 x2 x3 : List ByteArray) (w : World) (hO : KO base w v L sl) (hb : base ≤ w.heap.size) (h1 : SS w a1 x1) (h2 : SS w a2 x2) (h3 : SS w a3 x3) (n1 : x1.length ≤ 1048576) (n2 : x2.length ≤ 1048576) (n3 : x3.length ≤ 1048576) (hL : L.length ≤ 1048576)
    (y1 : ∀ k, k < x1.length → (x1.getD k ByteArray.empty).size ≤ 1048576) (y2 : ∀ k, k < x2.length → (x2.getD k ByteArray.empty).size ≤ 1048576) (y3 : ∀ k, k < x3.length → (x3.getD k ByteArray.empty).size ≤ 1048576) :
    Calls Tryd.prog 44 #[v, .agg #[.slice a1 x1.length c1, .slice a2 x2.length c2, .slice a3 x3.length c3]] w fun e w' => PutQ base v (L ++ putK x1 x2 x3) w e w' := by
  obtain ⟨i1, hi', hy0, hy1, hy2⟩ := info_parts infoChunk
  have hV : ∀ b, v.ownBlock = some b → base ≤ b ∧ b < w.heap.size := fun b hb => hO.row.lt b hb
  have hSl : ∀ k, k < L.length * 3 → ∀ b, (sl k).ownBlock = some b → b < w.heap.size := fun k hk b hb => ((hO.each k hk).lt b hb).2
  have hPy := putK_yes (x1 := x1) (x2 := x2) (x3 := x3)
  have hPn := putK_no (x1 := x1) (x2 := x2) (x3 := x3)
  have hIB := fun k (a1 a2 a3 : Option Addr) (c1 c2 c3 : Nat) W => isBare k a1 a2 a3 c1 c2 c3 x1 x2 x3 W
  simp only [bare_any] at hIB
  obtain ⟨W0, hW0⟩ : ∃ W, w.alloc (.cells #[.slice a1 x1.length c1, .slice a2 x2.length c2, .slice a3 x3.length c3] 56) = W := ⟨_, rfl⟩
  have b0 : Below w.heap.size w W0 := by rw [← hW0]; exact allocBelow _ _
  have R0 : Rs W0 w.heap.size [.slice a1 x1.length c1, .slice a2 x2.length c2, .slice a3 x3.length c3] := by rw [← hW0]; exact Rs.new _ _ _
  have p0 := R0 0 _ rfl
  have p1 := R0 1 _ rfl
  have p2 := R0 2 _ rfl
  have z0 := b0.size
  have hNC := newChunk a1 a2 a3 c1 c2 c3 x1 x2 x3 W0 ((h1.toB.below b0).toSS z0) ((h2.toB.below b0).toSS z0) ((h3.toB.below b0).toSS z0) n1 n2 n3 y1 y2 y3
  have H0 := hO.below b0
  obtain ⟨K, hKe⟩ : ∃ K, kd x1 x2 x3 = K := ⟨_, rfl⟩
  unfold NP at hNC
  rw [hKe] at hNC hPn
  obtain ⟨ra, rc, er⟩ := shapeK hO.row
  subst er
  clear hKe h1 h2 h3 n1 n2 n3 y1 y2 y3 R0 hO
  go_enter Tryd.func44, Tryd.ntmps44
  go_wp2_with fail
  refine hNC.mono ?_; rintro e w5 ⟨v1, v2, v3, rfl, C5, b5⟩
  obtain ⟨va1, vc1, ev1⟩ := shapeS C5.o1
  obtain ⟨va2, vc2, ev2⟩ := shapeS C5.o2
  obtain ⟨va3, vc3, ev3⟩ := shapeS C5.o3
  simp only [] at ev1 ev2 ev3
  subst ev1 ev2 ev3
  have l1 := fun b hb => (C5.o1.lt b hb).1
  have l2 := fun b hb => (C5.o2.lt b hb).1
  have l3 := fun b hb => (C5.o3.lt b hb).1
  have s5 := b5.size
  obtain ⟨V, hVe⟩ : ∃ W, w5.alloc (.cells #[.int .i64 K, .slice va1 x1.length vc1, .slice va2 x2.length vc2, .slice va3 x3.length vc3] 40) = W := ⟨_, rfl⟩
  have bV : Below w5.heap.size w5 V := by rw [← hVe]; exact allocBelow _ _
  have RV : Rs V w5.heap.size [.int .i64 K, .slice va1 x1.length vc1, .slice va2 x2.length vc2, .slice va3 x3.length vc3] := by rw [← hVe]; exact Rs.new _ _ _
  have d0 := RV 0 _ rfl
  have d1 := RV 1 _ rfl
  have d2 := RV 2 _ rfl
  have d3 := RV 3 _ rfl
  have sV := bV.size
  clear hNC p0 p1 p2 hW0
  go_wp2_with fail
  refine (hIB K va1 va2 va3 vc1 vc2 vc3 V).mono ?_; rintro e w6 ⟨rfl, b6⟩
  have s6 := b6.size
  have B6 : Below W0.heap.size W0 w6 := below_step (below_step b5 s5 bV) (by omega) b6
  have H6 := H0.below B6
  have BB : Below w.heap.size w w6 := below_step b0 z0 B6
  have C6 : C3 base w6 (K, x1, x2, x3) _ _ _ := ((C5.below (goB b6 bV)).mono (by omega))
  have F6 := Fr.ofBelow (lo := 0) (hi := 0) b6
  replace d0 := F6.cell d0 (.inr (Nat.zero_le _))
  replace d1 := F6.cell d1 (.inr (Nat.zero_le _))
  replace d2 := F6.cell d2 (.inr (Nat.zero_le _))
  replace d3 := F6.cell d3 (.inr (Nat.zero_le _))
  clear hIB C5 H0 b5 bV b6 RV F6 hVe B6
  cases hbr : bare (0, x1, x2, x3) with
  | true =>
    have HP := hPy hbr
    have HF : Hid (PutQ base (Value.slice ra L.length rc) (L ++ putK x1 x2 x3) w (.returned (.slice ra L.length rc)) w6) := by
      show PutQ _ _ _ _ _ _
      rw [HP, List.append_nil]
      exact ⟨_, sl, rfl, H6, grownOfBelow BB _, .inl rfl⟩
    clear hPy hPn HP hbr H6 BB C6 hV hSl l1 l2 l3
    go_wp2
    go_ret
    exact HF.out
  | false =>
    have HP : Hid (putK x1 x2 x3 = [(K, x1, x2, x3)]) := hPn hbr
    have hPU := fun (W7 : World) (v' : Value) o p7 g7 k7 => KO.push (w6 := W7) (v' := v') (o := o) (M := W0.heap.size) (C := (K, x1, x2, x3)) H6 C6 (fun b hb => by have := (hV b hb).2; omega) (fun k hk b hb => by have := hSl k hk b hb; omega) l1 l2 l3 p7 g7 k7
    have hrow := H6.row
    clear hPy hPn hbr C6 hSl l1 l2 l3
    go_wp2_with ((at_builtin; refine wpList_append_own_at _ rfl (.tmp 11) (.tmp 13) 34 rfl base 40 i1 (.agg #[.int .i64 0, .slice none 0 0, .slice none 0 0, .slice none 0 0]) 4 80 Tryd.underlying34 hi' hy0 hy1 hy2 rfl (by decide) _ _ _ rfl (hrow.alloc _) ⟨w6.heap.size, 0, none⟩ 1 1 [.int .i64 K, .slice va1 x1.length vc1, .slice va2 x2.length vc2, .slice va3 x3.length vc3] rfl rfl (newsCells w6 #[.int .i64 K, .slice va1 x1.length vc1, .slice va2 x2.length vc2, .slice va3 x3.length vc3] 40) (by simp [Value.oneCell']) (by unfold maxLen; omega) (by omega) (by simp; omega) ?_; intro v' W7 p7 g7 _ k7))
    have HH := hPU W7 v' _ p7 g7 k7
    rw [← HP.out] at HH
    have HG : w.grownBy W7 (Value.slice ra L.length rc).ownBlock := grownTrans (grownTrans (grownOfBelow BB _) (World.grownBy_alloc _ _ _)) g7
    have HK : v'.ownBlock = (Value.slice ra L.length rc).ownBlock ∨ ∃ b, v'.ownBlock = some b ∧ w.heap.size ≤ b := k7.imp id (fun e => ⟨_, e, by have := BB.size; simp; omega⟩)
    clear hPU p7 g7 k7 hrow H6 BB
    go_ret
    exact ⟨_, _, rfl, HH, HG, HK⟩

theorem bare_len {x1 x2 x3 : List ByteArray} (h : bare (0, x1, x2, x3) = true) : ((x1.length : Int) + (x2.length : Int) + (x3.length : Int) == 0) = true := by rw [← bare_sum 0]; exact h
set_option maxRecDepth 20000 in
set_option maxHeartbeats 2000000 in
theorem l4PutW (base : Nat) (v : Value) (L : List Ck) (sl : Nat → Value) (a1 a2 a3 : Option Addr) (c1 c2 c3 : Nat) (x1 x2 x3 : List ByteArray) (w : World) (hO : KO base w v L sl) (hb : base ≤ w.heap.size) (h1 : SSN w.heap.size w a1 c1 x1) (h2 : SSN w.heap.size w a2 c2 x2) (h3 : SSN w.heap.size w a3 c3 x3) (n1 : x1.length ≤ 1048576) (n2 : x2.length ≤ 1048576) (n3 : x3.length ≤ 1048576) (hL : L.length ≤ 1048576) :
    Calls Tryd.prog 51 #[v, .slice a1 x1.length c1, .slice a2 x2.length c2, .slice a3 x3.length c3] w fun e w' => PutP base v (L ++ putK x1 x2 x3) w e w' := by
  cases hbr : bare (0, x1, x2, x3) with
  | false => rw [putK_no hbr]; exact l4Put base v L sl a1 a2 a3 c1 c2 c3 x1 x2 x3 w hO hb h1 h2 h3 n1 n2 n3 hL hbr
  | true =>
    rw [putK_yes hbr, List.append_nil]
    have hq := bare_len hbr
    have HF : Hid (PutP base v L w (.returned v) w) := ⟨_, sl, rfl, hO, grownOfBelow (Below.refl _ _) _⟩
    obtain ⟨ra, rc, er⟩ := shapeK hO.row
    subst er
    clear hbr h1 h2 h3 hO
    go_enter Tryd.func51, Tryd.ntmps51
    go_wp2
    go_ret
    exact HF.out
end Go.Proofs.YtciddfpkcdicaaaDoor
/- The contract of chunksAround. No statement is proved here. -/
namespace Go.Proofs.YtciddfpkcdicaaaDoor
open Go.ChangeShapes Go.WideShapes Go.ChangeAt Go.RowKit

def sgK (xs : List ByteArray) (i j : Nat) : List ByteArray := (xs.drop i).take (j - i)
/-- The chunk of a piece. -/
def ptK (x1 x2 x3 : List ByteArray) (s : T3 × T3) : List Ck := putK (sgK x1 s.1.1 s.2.1) (sgK x2 s.1.2.1 s.2.2.1) (sgK x3 s.1.2.2 s.2.2.2)
theorem sgK_len {xs : List ByteArray} {i j : Nat} (h : j ≤ xs.length) : (sgK xs i j).length = j - i := by unfold sgK; rw [List.length_take, List.length_drop]; omega
/-- The three texts, as they are read. -/
structure X3 (B : Nat) (w : World) (a1 a2 a3 : Option Addr) (c1 c2 c3 : Nat) (x1 x2 x3 : List ByteArray) : Prop where
  s1 : SSB B w a1 x1
  s2 : SSB B w a2 x2
  s3 : SSB B w a3 x3
theorem X3.belowAt {B : Nat} {w w' : World} {a1 a2 a3 : Option Addr} {c1 c2 c3 : Nat} {x1 x2 x3 : List ByteArray} (h : X3 B w a1 a2 a3 c1 c2 c3 x1 x2 x3) (hb : Below B w w') : X3 B w' a1 a2 a3 c1 c2 c3 x1 x2 x3 :=
  ⟨⟨h.s1.1, fun k hk => by obtain ⟨g, o, e, hl, hc⟩ := h.s1.2 k hk; exact ⟨g, o, e, hl, (hb.cell (p := ⟨g, o + k, none⟩) hl).trans hc⟩⟩, ⟨h.s2.1, fun k hk => by obtain ⟨g, o, e, hl, hc⟩ := h.s2.2 k hk; exact ⟨g, o, e, hl, (hb.cell (p := ⟨g, o + k, none⟩) hl).trans hc⟩⟩, ⟨h.s3.1, fun k hk => by obtain ⟨g, o, e, hl, hc⟩ := h.s3.2 k hk; exact ⟨g, o, e, hl, (hb.cell (p := ⟨g, o + k, none⟩) hl).trans hc⟩⟩⟩
/-- What the sizes of three texts are. -/
structure Z3 (c1 c2 c3 : Nat) (x1 x2 x3 : List ByteArray) : Prop where
  k1 : x1.length ≤ c1
  k2 : x2.length ≤ c2
  k3 : x3.length ≤ c3
  n1 : x1.length ≤ 1048576
  n2 : x2.length ≤ 1048576
  n3 : x3.length ≤ 1048576
  y1 : ∀ x ∈ x1, x.size ≤ 1048576
  y2 : ∀ x ∈ x2, x.size ≤ 1048576
  y3 : ∀ x ∈ x3, x.size ≤ 1048576
theorem appendSeg (base : Nat) (v : Value) (L : List Ck) (sl : Nat → Value) (a1 a2 a3 : Option Addr) (c1 c2 c3 : Nat) (x1 x2 x3 : List ByteArray) (f0 f1 f2 t0 t1 t2 : Nat) (w : World) (B : Nat) (hO : KO base w v L sl) (hb : base ≤ w.heap.size) (hX : X3 B w a1 a2 a3 c1 c2 c3 x1 x2 x3) (hB : B ≤ w.heap.size) (hZ : Z3 c1 c2 c3 x1 x2 x3) (hL : L.length ≤ 1048576)
    (h1 : le3 (f0, f1, f2) (t0, t1, t2)) (h2 : le3 (t0, t1, t2) (x1.length, x2.length, x3.length)) :
    Calls Tryd.prog 44 #[v, .agg #[segV a1 c1 f0 t0, segV a2 c2 f1 t1, segV a3 c3 f2 t2]] w fun e w' => PutQ base v (L ++ ptK x1 x2 x3 ((f0, f1, f2), (t0, t1, t2))) w e w' := by
  obtain ⟨h10, h11, h12⟩ := h1
  obtain ⟨h20, h21, h22⟩ := h2
  simp only [] at h10 h11 h12 h20 h21 h22
  have l1 : (sgK x1 f0 t0).length = t0 - f0 := sgK_len h20
  have l2 : (sgK x2 f1 t1).length = t1 - f1 := sgK_len h21
  have l3 : (sgK x3 f2 t2).length = t2 - f2 := sgK_len h22
  have q1 := segSSB hX.s1 f0 t0 c1 h10 h20 hZ.k1
  have q2 := segSSB hX.s2 f1 t1 c2 h11 h21 hZ.k2
  have q3 := segSSB hX.s3 f2 t2 c3 h12 h22 hZ.k3
  have hA := appendChunk base v L sl (segA a1 c1 f0) (segA a2 c2 f1) (segA a3 c3 f2) (c1 - f0) (c2 - f1) (c3 - f2) (sgK x1 f0 t0) (sgK x2 f1 t1) (sgK x3 f2 t2) w hO hb (q1.toSS hB) (q2.toSS hB) (q3.toSS hB) (by have := hZ.n1; omega) (by have := hZ.n2; omega) (by have := hZ.n3; omega) hL (seg_small hZ.y1 f0 t0) (seg_small hZ.y2 f1 t1) (seg_small hZ.y3 f2 t2)
  rw [l1, l2, l3] at hA
  exact hA
theorem tog_at : ∀ (r : List T3) (p : T3), (p :: r).getD (tog p r) t3z = ad p (tog p r) := by
  intro r
  induction r with
  | nil => intro p; rw [tog_nil]; rfl
  | cons q r ih =>
    intro p
    by_cases e : q = nx p
    · subst e
      rw [tog_yes, List.getD_cons_succ, ih, ad_nx]
    · rw [tog_no r e]; rfl
theorem T3s.drop {l : List T3} (h : T3s l) (n : Nat) : T3s (l.drop n) := fun p hp => h p (List.mem_of_mem_drop hp)
/-- What holds while chunks are laid around kept places: the chunks so far, the kept places that are left, where it stands. -/
structure AR (w wr : World) (B1 : Nat) (a1 a2 a3 : Option Addr) (c1 c2 c3 : Nat) (x1 x2 x3 : List ByteArray) (T CL : List Ck) (v : Value) (sl : Nat → Value) (f : T3) (M : List T3) : Prop where
  own : KO B1 wr v CL sl
  bel : Below w.heap.size w wr
  siz : B1 ≤ wr.heap.size
  lst : Rf wr w.heap.size [.slice a1 x1.length c1, .slice a2 x2.length c2, .slice a3 x3.length c3]
  frm : Rf wr (w.heap.size + 1) [.int .i64 (f.1 : Int), .int .i64 (f.2.1 : Int), .int .i64 (f.2.2 : Int)]
  eqn : CL ++ (segs (x1.length, x2.length, x3.length) f M).flatMap (ptK x1 x2 x3) = T
  ok : ∀ x ∈ segs (x1.length, x2.length, x3.length) f M, le3 x.1 x.2 ∧ le3 x.2 (x1.length, x2.length, x3.length)
theorem Rf.grow {w w' : World} {b : Nat} {vs : List Value} {row : Option Nat} (h : Rf w b vs) (hg : w.grownBy w' row) (hb : b < w.heap.size) (hne : row ≠ some b) : Rf w' b vs := by
  have e := hg.block b hb (fun q => hne q.symm)
  refine ⟨fun k v hk => ?_, fun k => ?_⟩
  · have := h.at_ k v hk
    unfold World.cell? at this ⊢
    rw [e]; exact this
  · have := h.fz k
    unfold World.frozen? at this ⊢
    rw [e]; exact this
end Go.Proofs.YtciddfpkcdicaaaDoor
