/- The contracts of the specification's l5Put at nil, l5Twin and DrawMergeStores. No statement is proved here. -/
import Derived.Test.YtnififnogdekiaaRows
import Derived.Test.YtnififnogdekiaaLemQ
import Derived.Test.YtnififnogdekiaaMarksQ
import Derived.Test.YtnififnogdekiaaDTabQ
import Derived.Test.YtnififnogdekiaaInQ
import Derived.Test.YtnififnogdekiaaIdMQ
import Derived.Test.YtnififnogdekiaaObLQ
import Derived.Test.YtnififnogdekiaaGtSQ
import Derived.Test.YtnififnogdekiaaShMQ
import Derived.Test.YtnififnogdekiaaShQQ
import Derived.Test.YtnififnogdekiaaPuLQ
import Derived.Test.YtnififnogdekiaaOcAQ
import Derived.Test.YtnififnogdekiaaPuSQ
import Derived.Test.YtnififnogdekiaaDrawQ
import Derived.Test.YtnififnogdekiaaDraw12Q
import Derived.WalkKit
import Derived.ProofKit
import Derived.Below
import Derived.WalkSpells
import Derived.Laws.AppendOwnNone
namespace Go.Proofs.Ytnififnogdekiaa
open Go.ChangeShapes Go.WideShapes Go.ChangeAt Go.RowKit

set_option maxHeartbeats 800000 in
theorem l5CopyNil (w : World) : Calls Try.prog 39 #[.slice none 0 0] w fun e w' => ON [] w e w' := by
  obtain ⟨i0, hi, hz0, hz1, hz2⟩ := info_parts infoObj
  have o1 : (w.alloc (.cells #[] 31)).ownsRow w.heap.size 31 3 (.slice (some ⟨w.heap.size, 0, none⟩) 0 0) ([] : List Ob).length (ocells []) := World.ownsRow_lit w #[] 0 (Nat.le_refl _) (Nat.zero_le _) rfl
  go_enter Try.func39, Try.ntmps39
  go_wp2_with (at_builtin; refine wpList_append_own_none rfl (.tmp 3) (.tmp 4) _ rfl w.heap.size _ i0 3 Try.underlying24 hi (.slice (some ⟨w.heap.size, 0, none⟩) 0 0) _ _ rfl o1 rfl ?_)
  go_ret
  exact ⟨_, rfl, fun e => (by cases e), o1, allocBelow _ _⟩
set_option maxRecDepth 20000 in
set_option maxHeartbeats 2000000 in
theorem l5PutNil (k : Int) (d : ByteArray) (w : World) (hk : inB k 1 3 = true) (hd : d.size ≤ 1048576) :
    Calls Try.prog 20 #[.slice none 0 0, .int .i64 k, .string d] w fun e w' => PT 0 [(idN k d, k, d)] (idN k d) w e w' := by
  have hI := fun w => l5Id k d w hk hd
  have hF := l5Find none 0 [] (idN k d) w (fun k hk => absurd hk (Nat.not_lt_zero _)) (by simp)
  have e0 : fz [] (idN k d) = -1 := fz_none (fun j hj => absurd hj (Nat.not_lt_zero _))
  rw [e0] at hF
  obtain ⟨Id, hId⟩ : ∃ Id, idN k d = Id := ⟨_, rfl⟩
  rw [hId] at hI hF ⊢
  obtain ⟨i0, hi, hz0, hz1, hz2⟩ := info_parts infoObj
  have hF' : Calls Try.prog 38 #[.slice none 0 0, .string Id] w fun e w' => e = .returned (.int .i64 (-1)) ∧ w' = w := hF
  clear hF e0 hId
  go_enter Try.func20, Try.ntmps20
  go_wp2_with fail
  refine (hI _).mono ?_; rintro e w ⟨rfl, rfl⟩
  go_wp2_with fail
  refine hF'.mono ?_; rintro e w ⟨rfl, rfl⟩
  go_wp2
  go_loop [11] (fun i => i = .int .i64 0) (fun _ => 0)
  case atStart => rfl
  case round =>
    subst hrel
    go_wp2_with fail
    refine (l5CopyNil _).mono ?_; rintro e w1 ⟨v1, rfl, n1, o1, b1⟩
    have bA := allocBelow w1 (.cells #[.string Id, .int .i64 k, .string d] 31)
    have oA := o1.kept (grownOfBelow bA none) (blockCases _ _ (fun _ _ h => by cases h))
    have nA := newsCells w1 #[.string Id, .int .i64 k, .string d] 31
    have hlg : ∀ j, v1.ownBlock = some j → w.heap.size ≤ j := fun j hj => (o1.lt j hj).1
    have s1 := b1.size
    go_wp2_with (first
      | (at_builtin; refine wpList_appO rfl (.tmp 52) (.tmp 57) rfl w.heap.size v1 [] rfl oA ⟨w1.heap.size, 0, none⟩ 1 [(Id, k, d)] rfl (by rw [ocells_one]; exact nA) (by simp) (by simp; omega) ?_; intro v2 w2 o2 g2 n2 k2
         have B2 : Below w.heap.size w w2 := (b1.trans (bA.mono s1)).grown g2 (by simp; omega) (fun j hj => hlg j hj)
         have n2' : v2 ≠ .slice none 0 0 := fun e => n1 (n2.1 e).1)
      | (at_builtin; refine wpList_append_own_none rfl (.tmp 59) (.tmp 62) _ rfl w.heap.size _ i0 3 Try.underlying24 hi v2 _ _ rfl o2 rfl ?_)
      | go_in)
    refine bodyPost_ret (v := .tuple #[v2, .string Id, .int .i64 0]) (by simp [results, Try.results20, go_sem]) rfl ?_
    exact ⟨_, rfl, fun _ => n2', o2, B2⟩
theorem conv_two (a b : Nat) (ha : a < 256) (hb : b < 256) (x y : Int) (hx : x = (a : Int)) (hy : y = (b : Int)) (W : World) (g c : Nat) (h0 : W.cell? ⟨g, 0, none⟩ = some (.int .u8 x)) (h1 : W.cell? ⟨g, 1, none⟩ = some (.int .u8 y)) :
    (convert 22 9 (.slice (some ⟨g, 0, none⟩) 2 c)).run Try.prog W = .ok (.string ⟨#[a.toUInt8, b.toUInt8]⟩) W := by
  have ea : (a.toUInt8.toNat : Int) = (a : Int) := by
    have : a.toUInt8.toNat = a % 256 := by simp
    omega
  have eb : (b.toUInt8.toNat : Int) = (b : Int) := by
    have : b.toUInt8.toNat = b % 256 := by simp
    omega
  refine run_convert_bytes_back _ 22 9 5 ⟨g, 0, none⟩ c [a.toUInt8, b.toUInt8] Try.underlying22 Try.underlying5 Try.underlying9 ?_
  intro j hj
  have : j = 0 ∨ j = 1 := by simp at hj; omega
  rcases this with rfl | rfl
  · show _ = some (Value.int .u8 (a.toUInt8.toNat : Int))
    rw [ea, ← hx, add_plain]
    exact h0
  · show _ = some (Value.int .u8 (b.toUInt8.toNat : Int))
    rw [eb, ← hy, add_plain]
    exact h1
set_option maxRecDepth 20000 in
set_option maxHeartbeats 2000000 in
theorem l5Twin (s : ByteArray) (hs : s.size ≤ 1000) (w : World) :
    Calls Try.prog 21 #[.string s] w fun e w' => ∃ y : ByteArray, e = .returned (.string y) ∧ y.size ≤ s.size + 1 ∧ Below w.heap.size w w' := by
  have H1 : Hid ((s ++ ⟨#[10]⟩).size ≤ s.size + 1) := by
    show _ ≤ _
    rw [ByteArray.size_append]
    have : (⟨#[10]⟩ : ByteArray).size = 1 := rfl
    omega
  by_cases h2 : s.size < 2
  · have q : (s.size : Int) < 2 := by omega
    go_enter Try.func21, Try.ntmps21
    go_wp2
    go_ret
    exact ⟨_, rfl, H1.out, Below.refl _ _⟩
  have q : ¬ (s.size : Int) < 2 := by omega
  have hz0 : 0 < s.size := by omega
  have hz1 : 1 < s.size := by omega
  have z0 : (0 : Int) < (s.size : Int) := by omega
  have z1 : (1 : Int) < (s.size : Int) := by omega
  have u0 := UInt8.toNat_lt (s[0]'hz0)
  have u1 := UInt8.toNat_lt (s[1]'hz1)
  by_cases h255 : (s[0]'hz0).toNat = 255
  · have q1 : (((s[0]'hz0).toNat : Int) == 255) = true := by rw [h255]; rfl
    go_enter Try.func21, Try.ntmps21
    go_wp2
    go_ret
    exact ⟨_, rfl, H1.out, Below.refl _ _⟩
  have q1 : (((s[0]'hz0).toNat : Int) == 255) = false := by
    rw [beq_eq_false_iff_ne]; omega
  by_cases h131 : (s[1]'hz1).toNat < 131
  · have q2 : ((s[1]'hz1).toNat : Int) < 131 := by omega
    go_enter Try.func21, Try.ntmps21
    go_wp2
    go_ret
    exact ⟨_, rfl, H1.out, Below.refl _ _⟩
  have q2 : ¬ ((s[1]'hz1).toNat : Int) < 131 := by omega
  have hcv := conv_two ((s[0]'hz0).toNat + 1) ((s[1]'hz1).toNat - 131) (by omega) (by omega) (((s[0]'hz0).toNat : Int) + 1) (((s[1]'hz1).toNat : Int) - 131) (by omega) (by omega)
  obtain ⟨D, hD⟩ : ∃ D : ByteArray, (⟨#[((s[0]'hz0).toNat + 1).toUInt8, ((s[1]'hz1).toNat - 131).toUInt8]⟩ : ByteArray) = D := ⟨_, rfl⟩
  have hDz : D.size = 2 := by rw [← hD]; rfl
  rw [hD] at hcv
  have HZ : Hid ((D ++ s.extract 2 s.size).size ≤ s.size + 1) := by
    show _ ≤ _
    rw [ByteArray.size_append, hDz]
    simp
    omega
  have hDl : D.size ≤ 2 := by omega
  have z2 : (2 : Int) ≤ (s.size : Int) := by omega
  clear hD hDz H1
  go_enter Try.func21, Try.ntmps21
  go_wp2
  go_region
  all_goals (go_wp2; go_ret; exact ⟨_, rfl, HZ.out, below_drew (allocBelow _ _)⟩)
theorem conv_oneG (a : Nat) (ha : a < 256) (x : Int) (hx : x = (a : Int)) (W : World) (g c : Nat) (h0 : W.cell? ⟨g, 0, none⟩ = some (.int .u8 x)) :
    (convert 22 9 (.slice (some ⟨g, 0, none⟩) 1 c)).run Try.prog W = .ok (.string ⟨#[a.toUInt8]⟩) W := by
  have ea : (a.toUInt8.toNat : Int) = (a : Int) := by
    have : a.toUInt8.toNat = a % 256 := by simp
    omega
  refine run_convert_bytes_back _ 22 9 5 ⟨g, 0, none⟩ c [a.toUInt8] Try.underlying22 Try.underlying5 Try.underlying9 ?_
  intro j hj
  have : j = 0 := by simp at hj; omega
  subst this
  show _ = some (Value.int .u8 (a.toUInt8.toNat : Int))
  rw [ea, ← hx, add_plain]
  exact h0
def MgPost (w : World) (e : Ending) (w' : World) : Prop := ∃ (g1 c1 : Nat) (l1 : List Ob) (g2 c2 : Nat) (l2 : List Ob), e = .returned (.tuple #[.slice (some ⟨g1, 0, none⟩) l1.length c1, .slice (some ⟨g2, 0, none⟩) l2.length c2]) ∧ OB w'.heap.size w' (some ⟨g1, 0, none⟩) l1 ∧ OB w'.heap.size w' (some ⟨g2, 0, none⟩) l2 ∧ SmO l1 ∧ SmO l2 ∧ Below w.heap.size w w'
theorem rowPos {w : World} {base : Nat} {e : TypeId} {s : Nat} {v : Value} {n : Nat} {xs : List Value} (h : w.ownsRow base e s v n xs) (hn : v ≠ .slice none 0 0) : ∃ g c, v = .slice (some ⟨g, 0, none⟩) n c := by
  rcases h.2 with ⟨e, _⟩ | ⟨g, c, cur, e, _⟩
  · exact absurd e hn
  · exact ⟨g, c, e⟩
theorem one_sm (d : ByteArray) (h : d.size ≤ 101) : SmO [(idN 1 d, 1, d)] := by
  refine ⟨by simp, fun o ho => ?_⟩
  rw [List.mem_singleton.1 ho]
  exact ⟨idN_small 1 d, h⟩
end Go.Proofs.Ytnififnogdekiaa
