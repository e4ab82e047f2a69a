/- The contracts of appendChunk and of l4Put, bare or not. No statement is proved here. -/
import Derived.Test.YtkeinpobngfioaaRows
import Derived.Test.YtkeinpobngfioaaLemQ
import Derived.Test.YtkeinpobngfioaaDTabQ
import Derived.Test.YtkeinpobngfioaaHkTQ
import Derived.Test.YtkeinpobngfioaaCkLQ
import Derived.Test.YtkeinpobngfioaaCkCQ
import Derived.Test.YtkeinpobngfioaaCkBQ
import Derived.Test.YtkeinpobngfioaaCkNQ
import Derived.Test.YtkeinpobngfioaaCkPQ
import Derived.WalkKit
import Derived.ProofKit
import Derived.Below
import Derived.WalkSpells
import Derived.Maps.AppendAt
import Derived.Test.YtkeinpobngfioaaWvCQ
import Derived.Test.YtkeinpobngfioaaKpMQ
import Derived.Test.YtkeinpobngfioaaKpAQ
import Derived.Test.YtkeinpobngfioaaKpBQ
import Derived.Deep.QuietTactic
import Derived.BigQuiet
import Derived.Deep.RegionWith
import Derived.Deep.RegionHeld
import Derived.Deep.Cut
import Derived.Deep.CutRange
namespace Go.Proofs.Ytkeinpobngfioaa
open Go.ChangeShapes Go.WideShapes Go.ChangeAt Go.RowKit

/-- What a piece of three texts puts to the chunks: nothing where it is bare. -/
def putK (x1 x2 x3 : List ByteArray) : List Ck := if bare (0, x1, x2, x3) = true then [] else [(kd x1 x2 x3, x1, x2, x3)]
theorem bare_any (k : Int) (x1 x2 x3 : List ByteArray) : bare (k, x1, x2, x3) = bare (0, x1, x2, x3) := rfl
theorem putK_yes {x1 x2 x3 : List ByteArray} (h : bare (0, x1, x2, x3) = true) : putK x1 x2 x3 = [] := if_pos h
theorem putK_no {x1 x2 x3 : List ByteArray} (h : bare (0, x1, x2, x3) = false) : putK x1 x2 x3 = [(kd x1 x2 x3, x1, x2, x3)] := if_neg (by rw [h]; decide)
/-- As PutP; and where the row lies then. -/
def PutQ (base : Nat) (v : Value) (L : List Ck) (w : World) (e : Ending) (w' : World) : Prop := ∃ v' sl', e = .returned v' ∧ KO base w' v' L sl' ∧ w.grownBy w' v.ownBlock ∧ (v'.ownBlock = v.ownBlock ∨ ∃ b, v'.ownBlock = some b ∧ w.heap.size ≤ b)
theorem bare_len {x1 x2 x3 : List ByteArray} (h : bare (0, x1, x2, x3) = true) : ((x1.length : Int) + (x2.length : Int) + (x3.length : Int) == 0) = true := by rw [← bare_sum 0]; exact h
set_option maxRecDepth 20000 in
set_option maxHeartbeats 2000000 in
theorem l4PutW (base : Nat) (v : Value) (L : List Ck) (sl : Nat → Value) (a1 a2 a3 : Option Addr) (c1 c2 c3 : Nat) (x1 x2 x3 : List ByteArray) (w : World) (hO : KO base w v L sl) (hb : base ≤ w.heap.size) (h1 : SSN w.heap.size w a1 c1 x1) (h2 : SSN w.heap.size w a2 c2 x2) (h3 : SSN w.heap.size w a3 c3 x3) (n1 : x1.length ≤ 1048576) (n2 : x2.length ≤ 1048576) (n3 : x3.length ≤ 1048576) (hL : L.length ≤ 1048576) :
    Calls Try.prog 51 #[v, .slice a1 x1.length c1, .slice a2 x2.length c2, .slice a3 x3.length c3] w fun e w' => PutP base v (L ++ putK x1 x2 x3) w e w' := by
  cases hbr : bare (0, x1, x2, x3) with
  | false => rw [putK_no hbr]; exact l4Put base v L sl a1 a2 a3 c1 c2 c3 x1 x2 x3 w hO hb h1 h2 h3 n1 n2 n3 hL hbr
  | true =>
    rw [putK_yes hbr, List.append_nil]
    have hq := bare_len hbr
    have HF : Hid (PutP base v L w (.returned v) w) := ⟨_, sl, rfl, hO, grownOfBelow (Below.refl _ _) _⟩
    obtain ⟨ra, rc, er⟩ := shapeK hO.row
    subst er
    clear hbr h1 h2 h3 hO
    go_enter Try.func51, Try.ntmps51
    go_wp2
    go_ret
    exact HF.out
end Go.Proofs.Ytkeinpobngfioaa
/- The contract of chunksAround. No statement is proved here. -/
namespace Go.Proofs.Ytkeinpobngfioaa
open Go.ChangeShapes Go.WideShapes Go.ChangeAt Go.RowKit

def sgK (xs : List ByteArray) (i j : Nat) : List ByteArray := (xs.drop i).take (j - i)
/-- The chunk of a piece. -/
def ptK (x1 x2 x3 : List ByteArray) (s : T3 × T3) : List Ck := putK (sgK x1 s.1.1 s.2.1) (sgK x2 s.1.2.1 s.2.2.1) (sgK x3 s.1.2.2 s.2.2.2)
theorem sgK_len {xs : List ByteArray} {i j : Nat} (h : j ≤ xs.length) : (sgK xs i j).length = j - i := by unfold sgK; rw [List.length_take, List.length_drop]; omega
/-- The three texts, as they are read. -/
structure X3 (B : Nat) (w : World) (a1 a2 a3 : Option Addr) (c1 c2 c3 : Nat) (x1 x2 x3 : List ByteArray) : Prop where
  s1 : SSB B w a1 x1
  s2 : SSB B w a2 x2
  s3 : SSB B w a3 x3
theorem X3.belowAt {B : Nat} {w w' : World} {a1 a2 a3 : Option Addr} {c1 c2 c3 : Nat} {x1 x2 x3 : List ByteArray} (h : X3 B w a1 a2 a3 c1 c2 c3 x1 x2 x3) (hb : Below B w w') : X3 B w' a1 a2 a3 c1 c2 c3 x1 x2 x3 :=
  ⟨⟨h.s1.1, fun k hk => by obtain ⟨g, o, e, hl, hc⟩ := h.s1.2 k hk; exact ⟨g, o, e, hl, (hb.cell (p := ⟨g, o + k, none⟩) hl).trans hc⟩⟩, ⟨h.s2.1, fun k hk => by obtain ⟨g, o, e, hl, hc⟩ := h.s2.2 k hk; exact ⟨g, o, e, hl, (hb.cell (p := ⟨g, o + k, none⟩) hl).trans hc⟩⟩, ⟨h.s3.1, fun k hk => by obtain ⟨g, o, e, hl, hc⟩ := h.s3.2 k hk; exact ⟨g, o, e, hl, (hb.cell (p := ⟨g, o + k, none⟩) hl).trans hc⟩⟩⟩
/-- What the sizes of three texts are. -/
structure Z3 (c1 c2 c3 : Nat) (x1 x2 x3 : List ByteArray) : Prop where
  k1 : x1.length ≤ c1
  k2 : x2.length ≤ c2
  k3 : x3.length ≤ c3
  n1 : x1.length ≤ 1048576
  n2 : x2.length ≤ 1048576
  n3 : x3.length ≤ 1048576
  y1 : ∀ x ∈ x1, x.size ≤ 1048576
  y2 : ∀ x ∈ x2, x.size ≤ 1048576
  y3 : ∀ x ∈ x3, x.size ≤ 1048576
theorem tog_at : ∀ (r : List T3) (p : T3), (p :: r).getD (tog p r) t3z = ad p (tog p r) := by
  intro r
  induction r with
  | nil => intro p; rw [tog_nil]; rfl
  | cons q r ih =>
    intro p
    by_cases e : q = nx p
    · subst e
      rw [tog_yes, List.getD_cons_succ, ih, ad_nx]
    · rw [tog_no r e]; rfl
theorem T3s.drop {l : List T3} (h : T3s l) (n : Nat) : T3s (l.drop n) := fun p hp => h p (List.mem_of_mem_drop hp)
/-- What holds while chunks are laid around kept places: the chunks so far, the kept places that are left, where it stands. -/
structure AR (w wr : World) (B1 : Nat) (a1 a2 a3 : Option Addr) (c1 c2 c3 : Nat) (x1 x2 x3 : List ByteArray) (T CL : List Ck) (v : Value) (sl : Nat → Value) (f : T3) (M : List T3) : Prop where
  own : KO B1 wr v CL sl
  bel : Below w.heap.size w wr
  siz : B1 ≤ wr.heap.size
  lst : Rf wr w.heap.size [.slice a1 x1.length c1, .slice a2 x2.length c2, .slice a3 x3.length c3]
  frm : Rf wr (w.heap.size + 1) [.int .i64 (f.1 : Int), .int .i64 (f.2.1 : Int), .int .i64 (f.2.2 : Int)]
  eqn : CL ++ (segs (x1.length, x2.length, x3.length) f M).flatMap (ptK x1 x2 x3) = T
  ok : ∀ x ∈ segs (x1.length, x2.length, x3.length) f M, le3 x.1 x.2 ∧ le3 x.2 (x1.length, x2.length, x3.length)
theorem Rf.grow {w w' : World} {b : Nat} {vs : List Value} {row : Option Nat} (h : Rf w b vs) (hg : w.grownBy w' row) (hb : b < w.heap.size) (hne : row ≠ some b) : Rf w' b vs := by
  have e := hg.block b hb (fun q => hne q.symm)
  refine ⟨fun k v hk => ?_, fun k => ?_⟩
  · have := h.at_ k v hk
    unfold World.cell? at this ⊢
    rw [e]; exact this
  · have := h.fz k
    unfold World.frozen? at this ⊢
    rw [e]; exact this
end Go.Proofs.Ytkeinpobngfioaa
/- The contract of chunksAround. No statement is proved here. -/
namespace Go.Proofs.Ytkeinpobngfioaa
open Go.ChangeShapes Go.WideShapes Go.ChangeAt Go.RowKit

def slen : Value → Nat
  | .slice _ n _ => n
  | _ => 0
theorem zcK {w w' : World} {g o : Nat} {v : Value} (b : Below w.heap.size w w') (h : w.cell? ⟨g, o, none⟩ = some v) : w'.cell? ⟨g, o, none⟩ = some v :=
  (Fr.ofBelow (lo := 0) (hi := 0) b).cell h (.inr (Nat.zero_le _))
/-- Two variables of three cells each, newly laid. -/
def R2 (V : World) (p q : List Value) (s8 s9 : Value) (wx : World) : Prop := ∃ k8 k9 W', W' = wx ∧ s8 = .pointer (some ⟨k8, 0, none⟩) ∧ s9 = .pointer (some ⟨k9, 0, none⟩) ∧ Rf W' k8 p ∧ Rf W' k9 q ∧ V.heap.size ≤ k8 ∧ V.heap.size ≤ k9 ∧ k8 < W'.heap.size ∧ k9 < W'.heap.size ∧ Below V.heap.size V W'
theorem Rf.set3 {w : World} {b : Nat} {x y z u v t : Value} (h : Rf w b [x, y, z]) : Rf (((w.setCell ⟨b, 0, none⟩ u).setCell ⟨b, 1, none⟩ v).setCell ⟨b, 2, none⟩ t) b [u, v, t] :=
  ((h.set (o := 0) (by simp) u).set (o := 1) (by simp) v).set (o := 2) (by simp) t
theorem Rf.off3 {w : World} {b k : Nat} {vs : List Value} {u v t : Value} (h : Rf w b vs) (hne : b ≠ k) : Rf (((w.setCell ⟨k, 0, none⟩ u).setCell ⟨k, 1, none⟩ v).setCell ⟨k, 2, none⟩ t) b vs :=
  ((h.other hne u).other hne v).other hne t
theorem size_set3 (w : World) (k : Nat) (u v t : Value) : (((w.setCell ⟨k, 0, none⟩ u).setCell ⟨k, 1, none⟩ v).setCell ⟨k, 2, none⟩ t).heap.size = w.heap.size := by simp
theorem below_set3 {B k : Nat} {a X : World} {v0 v1 v2 : Value} (h : Below B a X) (hk : B ≤ k) : Below B a (((X.setCell ⟨k, 0, none⟩ v0).setCell ⟨k, 1, none⟩ v1).setCell ⟨k, 2, none⟩ v2) :=
  ((h.setCell (p := ⟨k, 0, none⟩) hk _).setCell (p := ⟨k, 1, none⟩) hk _).setCell (p := ⟨k, 2, none⟩) hk _
/-- A variable of three cells that was laid ahead of a call. -/
structure Ahd (U w' : World) (k : Nat) : Prop where
  lt : k < w'.heap.size
  rf : Rf w' k [.int .i64 0, .int .i64 0, .int .i64 0]
  al : ∀ o, Rf (w'.alloc o) k [.int .i64 0, .int .i64 0, .int .i64 0]
theorem Ahd.mk' {U w' : World} {k : Nat} (h : Rf w' k [.int .i64 0, .int .i64 0, .int .i64 0]) (hk : k < w'.heap.size) : Ahd U w' k := ⟨hk, h, fun _ => h.below hk (allocBelow _ _)⟩
theorem ahead1 {U w' : World} {t : TypeId} (b : Below (U.alloc (.cells #[.int .i64 0, .int .i64 0, .int .i64 0] t)).heap.size (U.alloc (.cells #[.int .i64 0, .int .i64 0, .int .i64 0] t)) w') : Ahd U w' U.heap.size :=
  Ahd.mk' ((Rf.new U #[.int .i64 0, .int .i64 0, .int .i64 0] t).below (by simp) b) (Nat.lt_of_lt_of_le (by simp) b.size)
theorem ahead2 {U w' : World} {t t' : TypeId} (b : Below ((U.alloc (.cells #[.int .i64 0, .int .i64 0, .int .i64 0] t)).alloc (.cells #[.int .i64 0, .int .i64 0, .int .i64 0] t')).heap.size ((U.alloc (.cells #[.int .i64 0, .int .i64 0, .int .i64 0] t)).alloc (.cells #[.int .i64 0, .int .i64 0, .int .i64 0] t')) w') : Ahd U w' U.heap.size ∧ Ahd U w' (U.heap.size + 1) := by
  have h1 := (Rf.new U #[.int .i64 0, .int .i64 0, .int .i64 0] t).below (by simp) (allocBelow _ (.cells #[.int .i64 0, .int .i64 0, .int .i64 0] t'))
  have h2 := Rf.new (U.alloc (.cells #[.int .i64 0, .int .i64 0, .int .i64 0] t)) #[.int .i64 0, .int .i64 0, .int .i64 0] t'
  rw [show (U.alloc (.cells #[.int .i64 0, .int .i64 0, .int .i64 0] t)).heap.size = U.heap.size + 1 by simp] at h2
  exact ⟨Ahd.mk' (h1.below (by simp; omega) b) (Nat.lt_of_lt_of_le (by simp; omega) b.size), Ahd.mk' (h2.below (by simp) b) (Nat.lt_of_lt_of_le (by simp) b.size)⟩
theorem R2.sets {V U : World} {k8 k9 : Nat} {x y z x' y' z' u v t u' v' t' : Value} (h8 : Rf U k8 [x, y, z]) (h9 : Rf U k9 [x', y', z']) (hne : k8 ≠ k9) (l8 : V.heap.size ≤ k8) (l9 : V.heap.size ≤ k9) (b8 : k8 < U.heap.size) (b9 : k9 < U.heap.size) (B : Below V.heap.size V U) :
    R2 V [u, v, t] [u', v', t'] (.pointer (some ⟨k8, 0, none⟩)) (.pointer (some ⟨k9, 0, none⟩)) ((((((U.setCell ⟨k8, 0, none⟩ u).setCell ⟨k8, 1, none⟩ v).setCell ⟨k8, 2, none⟩ t).setCell ⟨k9, 0, none⟩ u').setCell ⟨k9, 1, none⟩ v').setCell ⟨k9, 2, none⟩ t') :=
  ⟨k8, k9, _, rfl, rfl, rfl, (h8.set3).off3 hne, (h9.off3 (Ne.symm hne)).set3, l8, l9, by rw [size_set3, size_set3]; exact b8, by rw [size_set3, size_set3]; exact b9, below_set3 (below_set3 B l8) l9⟩
theorem R2.one {V U : World} {k8 k9 : Nat} {x' y' z' u v t u' v' t' : Value} (h8 : Rf U k8 [u, v, t]) (h9 : Rf U k9 [x', y', z']) (hne : k8 ≠ k9) (l8 : V.heap.size ≤ k8) (l9 : V.heap.size ≤ k9) (b8 : k8 < U.heap.size) (b9 : k9 < U.heap.size) (B : Below V.heap.size V U) :
    R2 V [u, v, t] [u', v', t'] (.pointer (some ⟨k8, 0, none⟩)) (.pointer (some ⟨k9, 0, none⟩)) (((U.setCell ⟨k9, 0, none⟩ u').setCell ⟨k9, 1, none⟩ v').setCell ⟨k9, 2, none⟩ t') :=
  ⟨k8, k9, _, rfl, rfl, rfl, h8.off3 hne, h9.set3, l8, l9, by rw [size_set3]; exact b8, by rw [size_set3]; exact b9, below_set3 B l9⟩
theorem R2.new {V U : World} {u v t u' v' t' : Value} {ty ty' : TypeId} (B : Below V.heap.size V U) (s : V.heap.size ≤ U.heap.size) :
    R2 V [u, v, t] [u', v', t'] (.pointer (some ⟨U.heap.size, 0, none⟩)) (.pointer (some ⟨U.heap.size + 1, 0, none⟩)) ((U.alloc (.cells #[u, v, t] ty)).alloc (.cells #[u', v', t'] ty')) := by
  have h1 := (Rf.new U #[u, v, t] ty).below (by simp) (allocBelow _ (.cells #[u', v', t'] ty'))
  have h2 := Rf.new (U.alloc (.cells #[u, v, t] ty)) #[u', v', t'] ty'
  rw [show (U.alloc (.cells #[u, v, t] ty)).heap.size = U.heap.size + 1 by simp] at h2
  exact ⟨_, _, _, rfl, rfl, rfl, h1, h2, s, by omega, by simp; omega, by simp, (B.alloc s _).alloc (by simp; omega) _⟩
theorem R2.newS {V U : World} {u v t u' v' t' : Value} {ty ty' : TypeId} (B : Below V.heap.size V U) (s : V.heap.size ≤ U.heap.size) :
    R2 V [u, v, t] [u', v', t'] (.pointer (some ⟨U.heap.size + 1, 0, none⟩)) (.pointer (some ⟨U.heap.size, 0, none⟩)) ((U.alloc (.cells #[u', v', t'] ty')).alloc (.cells #[u, v, t] ty)) := by
  have h1 := (Rf.new U #[u', v', t'] ty').below (by simp) (allocBelow _ (.cells #[u, v, t] ty))
  have h2 := Rf.new (U.alloc (.cells #[u', v', t'] ty')) #[u, v, t] ty
  rw [show (U.alloc (.cells #[u', v', t'] ty')).heap.size = U.heap.size + 1 by simp] at h2
  exact ⟨_, _, _, rfl, rfl, rfl, h2, h1, by omega, s, by simp, by simp; omega, (B.alloc s _).alloc (by simp; omega) _⟩
theorem TP.back {B : Nat} {w w' : World} {a : Option Addr} {l : List T3} (h : TP B w' a l) (hb : Below B w w') : TP B w a l := fun k hk => by
  obtain ⟨g, off, e, hg, d0, d1, d2⟩ := h k hk
  exact ⟨g, off, e, hg, (hb.cell (p := ⟨g, off + k * 3, none⟩) hg).symm.trans d0, (hb.cell (p := ⟨g, off + k * 3 + 1, none⟩) hg).symm.trans d1, (hb.cell (p := ⟨g, off + k * 3 + 2, none⟩) hg).symm.trans d2⟩
def KPost (T : List Ck) (w : World) (e : Ending) (w' : World) : Prop := ∃ v sl, e = .returned v ∧ KO w.heap.size w' v T sl ∧ Below w.heap.size w w'
end Go.Proofs.Ytkeinpobngfioaa
