/- The contract of chunksAround. No statement is proved here. -/
import Derived.Test.YtlgeoaepjghdhaaRows
import Derived.Test.YtlgeoaepjghdhaaLem
import Derived.Test.YtlgeoaepjghdhaaStrs
import Derived.Test.YtlgeoaepjghdhaaDTab
import Derived.Test.YtlgeoaepjghdhaaOwn
import Derived.Test.YtlgeoaepjghdhaaFr
import Derived.Test.YtlgeoaepjghdhaaIn
import Derived.Test.YtlgeoaepjghdhaaHkT
import Derived.Test.YtlgeoaepjghdhaaWvC
import Derived.Test.YtlgeoaepjghdhaaCkL
import Derived.Test.YtlgeoaepjghdhaaCkC
import Derived.Test.YtlgeoaepjghdhaaCkN
import Derived.Test.YtlgeoaepjghdhaaCkP
import Derived.Test.YtlgeoaepjghdhaaCkQ
import Derived.Test.YtlgeoaepjghdhaaKpM
import Derived.Test.YtlgeoaepjghdhaaKpA
import Derived.Test.YtlgeoaepjghdhaaKpB
import Derived.Test.YtlgeoaepjghdhaaKpC
import Derived.Test.YtlgeoaepjghdhaaKpD
import Derived.WalkKit
import Derived.ProofKit
import Derived.Below
import Derived.WalkSpells
import Derived.Deep.QuietTactic
import Derived.BigQuiet
import Derived.Deep.RegionWith
import Derived.Deep.RegionHeld
import Derived.Deep.Cut
import Derived.Deep.CutRange
namespace Go.Proofs.Ytlgeoaepjghdhaa
open Go.ChangeShapes Go.WideShapes Go.ChangeAt Go.RowKit

def sgK (xs : List ByteArray) (i j : Nat) : List ByteArray := (xs.drop i).take (j - i)
/-- The chunk of a piece. -/
def ptK (x1 x2 x3 : List ByteArray) (s : T3 × T3) : List Ck := putK (sgK x1 s.1.1 s.2.1) (sgK x2 s.1.2.1 s.2.2.1) (sgK x3 s.1.2.2 s.2.2.2)
theorem sgK_len {xs : List ByteArray} {i j : Nat} (h : j ≤ xs.length) : (sgK xs i j).length = j - i := by unfold sgK; rw [List.length_take, List.length_drop]; omega
/-- The three texts, as they are read. -/
structure X3 (B : Nat) (w : World) (a1 a2 a3 : Option Addr) (c1 c2 c3 : Nat) (x1 x2 x3 : List ByteArray) : Prop where
  s1 : SSB B w a1 x1
  s2 : SSB B w a2 x2
  s3 : SSB B w a3 x3
theorem X3.belowAt {B : Nat} {w w' : World} {a1 a2 a3 : Option Addr} {c1 c2 c3 : Nat} {x1 x2 x3 : List ByteArray} (h : X3 B w a1 a2 a3 c1 c2 c3 x1 x2 x3) (hb : Below B w w') : X3 B w' a1 a2 a3 c1 c2 c3 x1 x2 x3 :=
  ⟨⟨h.s1.1, fun k hk => by obtain ⟨g, o, e, hl, hc⟩ := h.s1.2 k hk; exact ⟨g, o, e, hl, (hb.cell (p := ⟨g, o + k, none⟩) hl).trans hc⟩⟩, ⟨h.s2.1, fun k hk => by obtain ⟨g, o, e, hl, hc⟩ := h.s2.2 k hk; exact ⟨g, o, e, hl, (hb.cell (p := ⟨g, o + k, none⟩) hl).trans hc⟩⟩, ⟨h.s3.1, fun k hk => by obtain ⟨g, o, e, hl, hc⟩ := h.s3.2 k hk; exact ⟨g, o, e, hl, (hb.cell (p := ⟨g, o + k, none⟩) hl).trans hc⟩⟩⟩
/-- What the sizes of three texts are. -/
structure Z3 (c1 c2 c3 : Nat) (x1 x2 x3 : List ByteArray) : Prop where
  k1 : x1.length ≤ c1
  k2 : x2.length ≤ c2
  k3 : x3.length ≤ c3
  n1 : x1.length ≤ 1048576
  n2 : x2.length ≤ 1048576
  n3 : x3.length ≤ 1048576
  y1 : ∀ x ∈ x1, x.size ≤ 1048576
  y2 : ∀ x ∈ x2, x.size ≤ 1048576
  y3 : ∀ x ∈ x3, x.size ≤ 1048576
theorem appendSeg (base : Nat) (v : Value) (L : List Ck) (sl : Nat → Value) (a1 a2 a3 : Option Addr) (c1 c2 c3 : Nat) (x1 x2 x3 : List ByteArray) (f0 f1 f2 t0 t1 t2 : Nat) (w : World) (B : Nat) (hO : KO base w v L sl) (hb : base ≤ w.heap.size) (hX : X3 B w a1 a2 a3 c1 c2 c3 x1 x2 x3) (hB : B ≤ w.heap.size) (hZ : Z3 c1 c2 c3 x1 x2 x3) (hL : L.length ≤ 1048576)
    (h1 : le3 (f0, f1, f2) (t0, t1, t2)) (h2 : le3 (t0, t1, t2) (x1.length, x2.length, x3.length)) :
    Calls Try.prog 76 #[v, .agg #[segV a1 c1 f0 t0, segV a2 c2 f1 t1, segV a3 c3 f2 t2]] w fun e w' => PutQ base v (L ++ ptK x1 x2 x3 ((f0, f1, f2), (t0, t1, t2))) w e w' := by
  obtain ⟨h10, h11, h12⟩ := h1
  obtain ⟨h20, h21, h22⟩ := h2
  simp only [] at h10 h11 h12 h20 h21 h22
  have l1 : (sgK x1 f0 t0).length = t0 - f0 := sgK_len h20
  have l2 : (sgK x2 f1 t1).length = t1 - f1 := sgK_len h21
  have l3 : (sgK x3 f2 t2).length = t2 - f2 := sgK_len h22
  have q1 := segSSB hX.s1 f0 t0 c1 h10 h20 hZ.k1
  have q2 := segSSB hX.s2 f1 t1 c2 h11 h21 hZ.k2
  have q3 := segSSB hX.s3 f2 t2 c3 h12 h22 hZ.k3
  have hA := appendChunk base v L sl (segA a1 c1 f0) (segA a2 c2 f1) (segA a3 c3 f2) (c1 - f0) (c2 - f1) (c3 - f2) (sgK x1 f0 t0) (sgK x2 f1 t1) (sgK x3 f2 t2) w hO hb (q1.toSS hB) (q2.toSS hB) (q3.toSS hB) (by have := hZ.n1; omega) (by have := hZ.n2; omega) (by have := hZ.n3; omega) hL (seg_small hZ.y1 f0 t0) (seg_small hZ.y2 f1 t1) (seg_small hZ.y3 f2 t2)
  rw [l1, l2, l3] at hA
  exact hA
theorem tog_at : ∀ (r : List T3) (p : T3), (p :: r).getD (tog p r) t3z = ad p (tog p r) := by
  intro r
  induction r with
  | nil => intro p; rw [tog_nil]; rfl
  | cons q r ih =>
    intro p
    by_cases e : q = nx p
    · subst e
      rw [tog_yes, List.getD_cons_succ, ih, ad_nx]
    · rw [tog_no r e]; rfl
theorem T3s.drop {l : List T3} (h : T3s l) (n : Nat) : T3s (l.drop n) := fun p hp => h p (List.mem_of_mem_drop hp)
/-- What holds while chunks are laid around kept places: the chunks so far, the kept places that are left, where it stands. -/
structure AR (w wr : World) (B1 : Nat) (a1 a2 a3 : Option Addr) (c1 c2 c3 : Nat) (x1 x2 x3 : List ByteArray) (T CL : List Ck) (v : Value) (sl : Nat → Value) (f : T3) (M : List T3) : Prop where
  own : KO B1 wr v CL sl
  bel : Below w.heap.size w wr
  siz : B1 ≤ wr.heap.size
  lst : Rf wr w.heap.size [.slice a1 x1.length c1, .slice a2 x2.length c2, .slice a3 x3.length c3]
  frm : Rf wr (w.heap.size + 1) [.int .i64 (f.1 : Int), .int .i64 (f.2.1 : Int), .int .i64 (f.2.2 : Int)]
  eqn : CL ++ (segs (x1.length, x2.length, x3.length) f M).flatMap (ptK x1 x2 x3) = T
  ok : ∀ x ∈ segs (x1.length, x2.length, x3.length) f M, le3 x.1 x.2 ∧ le3 x.2 (x1.length, x2.length, x3.length)
theorem Rf.grow {w w' : World} {b : Nat} {vs : List Value} {row : Option Nat} (h : Rf w b vs) (hg : w.grownBy w' row) (hb : b < w.heap.size) (hne : row ≠ some b) : Rf w' b vs := by
  have e := hg.block b hb (fun q => hne q.symm)
  refine ⟨fun k v hk => ?_, fun k => ?_⟩
  · have := h.at_ k v hk
    unfold World.cell? at this ⊢
    rw [e]; exact this
  · have := h.fz k
    unfold World.frozen? at this ⊢
    rw [e]; exact this
end Go.Proofs.Ytlgeoaepjghdhaa
