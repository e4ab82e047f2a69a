/- The contracts of spec.l4Copy and spec.l4Put. No statement is proved here. -/
import Derived.Test.YtlgeoaepjghdhaaRows
import Derived.Test.YtlgeoaepjghdhaaLem
import Derived.Test.YtlgeoaepjghdhaaStrs
import Derived.Test.YtlgeoaepjghdhaaDTab
import Derived.Test.YtlgeoaepjghdhaaOwn
import Derived.Test.YtlgeoaepjghdhaaFr
import Derived.Test.YtlgeoaepjghdhaaIn
import Derived.Test.YtlgeoaepjghdhaaHkT
import Derived.Test.YtlgeoaepjghdhaaCkL
import Derived.Test.YtlgeoaepjghdhaaCkC
import Derived.Test.YtlgeoaepjghdhaaCkB
import Derived.Test.YtlgeoaepjghdhaaCkI
import Derived.Test.YtlgeoaepjghdhaaCkS
import Derived.Test.YtlgeoaepjghdhaaCkN
import Derived.Test.YtlgeoaepjghdhaaCkT
import Derived.Test.YtlgeoaepjghdhaaCkU
import Derived.Test.YtlgeoaepjghdhaaCkP
import Derived.WalkKit
import Derived.ProofKit
import Derived.Below
import Derived.WalkSpells
import Derived.Maps.AppendAt
namespace Go.Proofs.Ytlgeoaepjghdhaa
open Go.ChangeShapes Go.WideShapes Go.ChangeAt Go.RowKit

theorem l4Copy (ss : List ByteArray) (a : Option Addr) (c : Nat) (w : World) (h : SSN w.heap.size w a c ss) (hn : ss.length ≤ 1048576) :
    Calls Try.prog 96 #[.slice a ss.length c] w fun e w' => RP ss w e w' := by
  go_enter Try.func96, Try.ntmps96
  have o1 : (w.alloc (.cells #[] 9)).ownsRow w.heap.size 9 1 (.slice (some ⟨w.heap.size, 0, none⟩) 0 0) ([] : List ByteArray).length (([] : List ByteArray).map Value.string) := World.ownsRow_lit w #[] 0 (Nat.le_refl _) (Nat.zero_le _) rfl
  have s1 := h.below (allocBelow w (.cells #[] 9))
  go_wp2_with (at_builtin; refine wpList_appN rfl (.tmp 3) (.tmp 4) rfl w.heap.size w.heap.size _ _ rfl o1 _ _ _ rfl s1 (by simp; omega) (by simp) ?_; intro v3 w3 o3 g3 _)
  have hB3 : Below w.heap.size w w3 := (allocBelow w _).grown g3 (by simp) (fun j hj => (o1.lt j hj).1)
  simp only [List.nil_append] at o3
  clear o1 s1 g3 h
  go_ret
  exact ⟨_, rfl, o3, hB3⟩

theorem newsCells (w : World) (vs : Array Value) (t : TypeId) : ∀ j u, vs.toList[j]? = some u → (w.alloc (.cells vs t)).cell? ((⟨w.heap.size, 0, none⟩ : Addr).add j) = some u := fun j u hj => by
  rw [add_plain, Nat.zero_add]; exact Rs.new w vs t j u hj
/-- A row of chunks, one more behind it; of the old blocks the old row's alone may have turned. -/
def PutP (base : Nat) (v : Value) (L : List Ck) (w : World) (e : Ending) (w' : World) : Prop := ∃ v' sl', e = .returned v' ∧ KO base w' v' L sl' ∧ w.grownBy w' v.ownBlock

set_option maxRecDepth 20000 in
set_option maxHeartbeats 2000000 in
theorem l4Put (base : Nat) (v : Value) (L : List Ck) (sl : Nat → Value) (a1 a2 a3 : Option Addr) (c1 c2 c3 : Nat) (x1 x2 x3 : List ByteArray) (w : World) (hO : KO base w v L sl) (hb : base ≤ w.heap.size) (h1 : SSN w.heap.size w a1 c1 x1) (h2 : SSN w.heap.size w a2 c2 x2) (h3 : SSN w.heap.size w a3 c3 x3) (n1 : x1.length ≤ 1048576) (n2 : x2.length ≤ 1048576) (n3 : x3.length ≤ 1048576) (hL : L.length ≤ 1048576)
    (hbr : bare (0, x1, x2, x3) = false) :
    Calls Try.prog 71 #[v, .slice a1 x1.length c1, .slice a2 x2.length c2, .slice a3 x3.length c3] w fun e w' => PutP base v (L ++ [(kd x1 x2 x3, x1, x2, x3)]) w e w' := by
  obtain ⟨i1, hi', hy0, hy1, hy2⟩ := info_parts infoChunk
  have hq : ((x1.length : Int) + (x2.length : Int) + (x3.length : Int) == 0) = false := by rw [← bare_sum 0]; exact hbr
  have hK := l4KindQ a1 a2 a3 c1 c2 c3 x1 x2 x3 w (h1.1.toSS (Nat.le_refl _)) (h2.1.toSS (Nat.le_refl _)) (h3.1.toSS (Nat.le_refl _)) n1 n2 n3
  obtain ⟨ra, rc, er⟩ := shapeK hO.row
  have hV : ∀ b, v.ownBlock = some b → base ≤ b ∧ b < w.heap.size := fun b hb => hO.row.lt b hb
  have hSl : ∀ k, k < L.length * 3 → ∀ b, (sl k).ownBlock = some b → b < w.heap.size := fun k hk b hb => ((hO.each k hk).lt b hb).2
  obtain ⟨K, hKe⟩ : ∃ K, kd x1 x2 x3 = K := ⟨_, rfl⟩
  rw [hKe] at hK ⊢
  clear hKe hbr
  subst er
  go_enter Try.func71, Try.ntmps71
  go_wp2_with fail
  refine hK.mono ?_; rintro e w1 ⟨rfl, n, hw1⟩
  have B1 : Below w.heap.size w w1 := by rw [hw1]; exact below_drewN' (Below.refl _ _) n
  clear hK hw1
  go_wp2_with fail
  refine (l4Copy x1 a1 c1 w1 ((h1.below B1).mono B1.size) n1).mono ?_; rintro e w2 ⟨v1, rfl, o1, b2⟩
  obtain ⟨va1, vc1, ev1⟩ := shapeS o1
  subst ev1
  have B2 := goB b2 B1
  go_wp2_with fail
  refine (l4Copy x2 a2 c2 w2 ((h2.below B2).mono B2.size) n2).mono ?_; rintro e w3 ⟨v2, rfl, o2, b3⟩
  obtain ⟨va2, vc2, ev2⟩ := shapeS o2
  subst ev2
  have B3 := goB b3 B2
  go_wp2_with fail
  refine (l4Copy x3 a3 c3 w3 ((h3.below B3).mono B3.size) n3).mono ?_; rintro e w4 ⟨v3, rfl, o3, b4⟩
  obtain ⟨va3, vc3, ev3⟩ := shapeS o3
  subst ev3
  have B4 := goB b4 B3
  have O1 := (Fr.ofBelow (lo := 0) (hi := 0) (goB b4 b3)).own o1 (fun _ _ => .inr (Nat.zero_le _))
  have O2 := (Fr.ofBelow (lo := 0) (hi := 0) b4).own o2 (fun _ _ => .inr (Nat.zero_le _))
  have l1 := fun j hj => o1.lt j hj
  have l2 := fun j hj => o2.lt j hj
  have l3 := fun j hj => o3.lt j hj
  have s1 := B1.size
  have s2 := b2.size
  have s3 := b3.size
  have s4 := b4.size
  have C : C3 base w4 (K, x1, x2, x3) (.slice va1 x1.length vc1) (.slice va2 x2.length vc2) (.slice va3 x3.length vc3) := ⟨ownMono O1 (by omega), ownMono O2 (by omega), ownMono o3 (by omega), fun b c1 c2 => by have := l1 b c1; have := l2 b c2; omega, fun b c1 c2 => by have := l1 b c1; have := l3 b c2; omega, fun b c1 c2 => by have := l2 b c1; have := l3 b c2; omega⟩
  have H4 := hO.below B4
  have hPU := fun (W5 : World) (v' : Value) o p5 g5 k5 => KO.push (w6 := W5) (v' := v') (o := o) (M := w.heap.size) (C := (K, x1, x2, x3)) H4 C (fun b hb => (hV b hb).2) hSl (fun b hb => by have := l1 b hb; omega) (fun b hb => by have := l2 b hb; omega) (fun b hb => by have := l3 b hb; omega) p5 g5 k5
  have hrow := H4.row
  clear o1 o2 o3 O1 O2 b2 b3 b4 l1 l2 l3 h1 h2 h3 B1 B2 B3 C
  go_wp2_with ((at_builtin; refine wpList_append_own_at _ rfl (.tmp 19) (.tmp 31) 24 rfl base 123 i1 (.agg #[.int .i64 0, .slice none 0 0, .slice none 0 0, .slice none 0 0]) 4 80 Try.underlying24 hi' hy0 hy1 hy2 rfl (by decide) _ _ _ rfl (hrow.alloc _) ⟨w4.heap.size, 0, none⟩ 1 1 [.int .i64 K, .slice va1 x1.length vc1, .slice va2 x2.length vc2, .slice va3 x3.length vc3] rfl rfl (newsCells w4 #[.int .i64 K, .slice va1 x1.length vc1, .slice va2 x2.length vc2, .slice va3 x3.length vc3] 123) (by simp [Value.oneCell']) (by unfold maxLen; omega) (by omega) (by simp; omega) ?_; intro v' W5 p5 g5 _ k5))
  have HH := hPU W5 v' _ p5 g5 k5
  have HG : w.grownBy W5 (Value.slice ra L.length rc).ownBlock := grownTrans (grownTrans (grownOfBelow B4 _) (World.grownBy_alloc _ _ _)) g5
  clear hPU p5 g5 k5 hrow H4 B4 hO
  go_ret
  exact ⟨_, _, rfl, HH, HG⟩
end Go.Proofs.Ytlgeoaepjghdhaa
