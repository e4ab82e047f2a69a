/- The contract of the specification's l5Store: a store that is drawn. No statement is proved here. -/
import Derived.Test.YtkgcpndnlefkoaaGreatDoorRows
import Derived.Test.YtkgcpndnlefkoaaGreatDoorLemQ
import Derived.Test.YtkgcpndnlefkoaaGreatDoorLwEQ
import Derived.Test.YtkgcpndnlefkoaaGreatDoorLFLemQ
import Derived.Test.YtkgcpndnlefkoaaGreatDoorDTabQ
import Derived.Test.YtkgcpndnlefkoaaGreatDoorInQ
import Derived.Test.YtkgcpndnlefkoaaGreatDoorDigCQ
import Derived.Test.YtkgcpndnlefkoaaGreatDoorObLQ
import Derived.Test.YtkgcpndnlefkoaaGreatDoorGtSQ
import Derived.Test.YtkgcpndnlefkoaaGreatDoorOcAQ
import Derived.Test.YtkgcpndnlefkoaaGreatDoorShQQ
import Derived.Test.YtkgcpndnlefkoaaGreatDoorPuSQ
import Derived.Test.YtkgcpndnlefkoaaGreatDoorJoinCQ
import Derived.Test.YtkgcpndnlefkoaaGreatDoorDrawQ
import Derived.Test.YtkgcpndnlefkoaaGreatDoorDraw5Q
import Derived.Test.YtkgcpndnlefkoaaGreatDoorDraw7Q
import Derived.WalkKit
import Derived.ProofKit
import Derived.Below
import Derived.WalkSpells
import Derived.Maps.AppendAt
import Derived.Laws.AppendOwnNone
import Derived.Deep.QuietTactic
import Derived.BigQuiet
import Derived.Deep.RegionWith
import Derived.Deep.RegionHeld
import Derived.Laws.BitsLemmas
namespace Go.Proofs.YtkgcpndnlefkoaaGreatDoor
open Go.ChangeShapes Go.WideShapes Go.ChangeAt Go.RowKit

/-- Objects that are not long. -/
def SmZ (z : Nat) (l : List Ob) : Prop := l.length ≤ 201 ∧ ∀ o ∈ l, o.1.size ≤ 10 ∧ o.2.2.size ≤ z
abbrev SmO (l : List Ob) : Prop := SmZ 101 l
theorem SmZ.up {z y : Nat} {l : List Ob} (h : SmZ z l) (hz : z ≤ y) : SmZ y l := ⟨h.1, fun o ho => ⟨(h.2 o ho).1, Nat.le_trans (h.2 o ho).2 hz⟩⟩
theorem setO_same (l : List Ob) (i : Nat) (X : Ob) (h : i < l.length) : (l.set i X).getD i onil = X := by simp [List.getD, h]
theorem setO_other (l : List Ob) (i j : Nat) (X : Ob) (h : ¬ j = i) : (l.set i X).getD j onil = l.getD j onil := by
  rw [List.getD, List.getD, List.getElem?_set_ne (by omega)]
theorem ocells_data (l : List Ob) (i : Nat) (d : ByteArray) (hi : i < l.length) : (ocells l).set (i * 3 + 2) (.string d) = ocells (l.set i ((l.getD i onil).1, (l.getD i onil).2.1, d)) := by
  unfold ocells
  rw [rowG_set, List.length_set]
  refine rowG_congr fun j _ => ?_
  by_cases h0 : j = i * 3 + 2
  · subst h0
    rw [if_pos rfl, ocell2, setO_same l i _ hi]
  · rw [if_neg h0]
    unfold ocell
    by_cases e : j / 3 = i
    · rw [e, setO_same l i _ hi]
      by_cases h1 : j % 3 = 0
      · rw [if_pos h1, if_pos h1]
      · rw [if_neg h1, if_neg h1, if_pos (by omega), if_pos (by omega)]
    · rw [setO_other l i (j / 3) _ e]
theorem ocells_kind (l : List Ob) (i : Nat) (x : Int) (hi : i < l.length) : (ocells l).set (i * 3 + 1) (.int .i64 x) = ocells (l.set i ((l.getD i onil).1, x, (l.getD i onil).2.2)) := by
  unfold ocells
  rw [rowG_set, List.length_set]
  refine rowG_congr fun j _ => ?_
  by_cases h0 : j = i * 3 + 1
  · subst h0
    rw [if_pos rfl, ocell1, setO_same l i _ hi]
  · rw [if_neg h0]
    unfold ocell
    by_cases e : j / 3 = i
    · rw [e, setO_same l i _ hi]
      by_cases h1 : j % 3 = 0
      · rw [if_pos h1, if_pos h1]
      · rw [if_neg h1, if_neg h1, if_neg (by omega), if_neg (by omega)]
    · rw [setO_other l i (j / 3) _ e]
theorem SmZ.set {z : Nat} {l : List Ob} (h : SmZ z l) (i : Nat) {X : Ob} (hX : X.1.size ≤ 10 ∧ X.2.2.size ≤ z) : SmZ z (l.set i X) := by
  refine ⟨by rw [List.length_set]; exact h.1, fun x hx => ?_⟩
  rcases List.mem_or_eq_of_mem_set hx with hx | rfl
  · exact h.2 x hx
  · exact hX
theorem idN_small (k : Int) (d : ByteArray) : (idN k d).size ≤ 10 := by
  have := idB_size (idB_idN k d)
  omega
theorem pL_sm {l : List Ob} {k : Int} {d : ByteArray} (h : SmZ 100 l) (hl : l.length ≤ 199) (hd : d.size ≤ 90) (hc : pC l k d = 0) : SmZ 100 (pL l k d) ∧ (pL l k d).length ≤ l.length + 1 ∧ (∀ o ∈ pL l k d, o ∈ l ∨ o = (idN k d, k, d)) := by
  unfold pL
  rw [if_pos hc]
  split
  · exact ⟨h, by omega, fun o ho => .inl ho⟩
  · have hp := insO_perm l (idN k d, k, d)
    have hm : ∀ o ∈ insO l (idN k d, k, d), o ∈ l ∨ o = (idN k d, k, d) := fun o ho => by
      rcases List.mem_append.1 (hp.mem_iff.1 ho) with h1 | h1
      · exact .inl h1
      · exact .inr (List.mem_singleton.1 h1)
    have hlen : (insO l (idN k d, k, d)).length = l.length + 1 := by rw [hp.length_eq]; simp
    refine ⟨⟨by omega, fun o ho => ?_⟩, by omega, hm⟩
    rcases hm o ho with h1 | rfl
    · exact h.2 o h1
    · exact ⟨idN_small k d, by show d.size ≤ 100; omega⟩
theorem ownNil' {w : World} {base : Nat} {e : TypeId} {s : Nat} {a : Option Addr} {n c : Nat} {xs : List Value} (h : w.ownsRow base e s (.slice a n c) n xs) : n ≤ c := by
  rcases h.2 with ⟨h', h0⟩ | ⟨g, cc, cur, h', _, _, hn, _⟩
  · simp only [Value.slice.injEq] at h'; omega
  · simp only [Value.slice.injEq] at h'
    obtain ⟨rfl, _, rfl⟩ := h'
    exact hn
theorem shapeO5 {w : World} {base : Nat} {e : TypeId} {s : Nat} {v : Value} {n : Nat} {xs : List Value} (h : w.ownsRow base e s v n xs) : ∃ a c, v = .slice a n c := by
  rcases h.2 with ⟨h', h0'⟩ | ⟨g, c, cur, h', _⟩
  · exact ⟨none, 0, by rw [h', h0']⟩
  · exact ⟨_, _, h'⟩
theorem ownDn {w : World} {base b : Nat} {e : TypeId} {s : Nat} {v : Value} {n : Nat} {xs : List Value} (h : w.ownsRow base e s v n xs) (hb : b ≤ base) : w.ownsRow b e s v n xs := by
  refine ⟨h.1, ?_⟩
  rcases h.2 with h' | ⟨g, cap, cur, h1, h2, h3⟩
  · exact .inl h'
  · exact .inr ⟨g, cap, cur, h1, by omega, h3⟩
def StPost (N b : Nat) (a : Option Addr) (n cap : Nat) (k : Int) (w : World) (e : Ending) (w' : World) : Prop := ∃ (g c : Nat) (l : List Ob), e = .returned (.slice (some ⟨g, 0, none⟩) l.length c) ∧ w'.ownsRow w.heap.size 93 3 (.slice (some ⟨g, 0, none⟩) l.length c) l.length (ocells l) ∧ SmO l ∧ w.grownBy w' (some b) ∧ ∃ k', Src N w' b a n cap k' ∧ k' ≤ k + 200
theorem smallTot {l : List ByteArray} {m : Nat} (h : SmL 8 l) (hl : l.length ≤ m) : tot l ≤ m * 8 := by
  have := h.small.totN
  have h2 : l.length * 8 ≤ m * 8 := Nat.mul_le_mul_right _ hl
  omega

theorem pick3' {w W : World} {x0 x1 x2 : Int} {t : TypeId} (h : w.alloc (.cells #[.int .i64 x0, .int .i64 x1, .int .i64 x2] t) = W) : ∀ j, j < 3 → ∃ v, W.cell? ⟨w.heap.size, j, none⟩ = some (.int .i64 v) ∧ True := by
  intro j hj
  have hc : ∀ i, W.cell? ⟨w.heap.size, i, none⟩ = _ := fun i => cell_of_row W w.heap.size i _ _ _ (by rw [← h]; exact heap_alloc_new w _)
  rw [hc]
  have : j = 0 ∨ j = 1 ∨ j = 2 := by omega
  rcases this with rfl | rfl | rfl <;> exact ⟨_, rfl, trivial⟩
theorem ocells_at {w : World} {base g c : Nat} {l : List Ob} (o3 : w.ownsRow base 93 3 (.slice (some ⟨g, 0, none⟩) l.length c) l.length (ocells l)) {i : Nat} (hi : i < l.length) :
    w.cell? ⟨g, i * 3, none⟩ = some (.string (l.getD i onil).1) ∧ w.cell? ⟨g, i * 3 + 1, none⟩ = some (.int .i64 (l.getD i onil).2.1) ∧ w.cell? ⟨g, i * 3 + 2, none⟩ = some (.string (l.getD i onil).2.2) := by
  refine ⟨?_, ?_, ?_⟩
  · rw [o3.cellAt (i * 3) (by omega)]; unfold ocells; rw [rowG_at _ _ _ (by omega), ocell0]
  · rw [o3.cellAt (i * 3 + 1) (by omega)]; unfold ocells; rw [rowG_at _ _ _ (by omega), ocell1]
  · rw [o3.cellAt (i * 3 + 2) (by omega)]; unfold ocells; rw [rowG_at _ _ _ (by omega), ocell2]
end Go.Proofs.YtkgcpndnlefkoaaGreatDoor
/- The contracts of the specification's l5Put at nil, l5Twin and DrawMergeStores. No statement is proved here. -/
namespace Go.Proofs.YtkgcpndnlefkoaaGreatDoor
open Go.ChangeShapes Go.WideShapes Go.ChangeAt Go.RowKit

set_option maxHeartbeats 800000 in
theorem l5CopyNil (w : World) : Calls Tryz.prog 61 #[.slice none 0 0] w fun e w' => ON [] w e w' := by
  obtain ⟨i0, hi, hz0, hz1, hz2⟩ := info_parts infoObj
  have o1 : (w.alloc (.cells #[] 93)).ownsRow w.heap.size 93 3 (.slice (some ⟨w.heap.size, 0, none⟩) 0 0) ([] : List Ob).length (ocells []) := World.ownsRow_lit w #[] 0 (Nat.le_refl _) (Nat.zero_le _) rfl
  go_enter Tryz.func61, Tryz.ntmps61
  go_wp2_with (at_builtin; refine wpList_append_own_none rfl (.tmp 3) (.tmp 4) _ rfl w.heap.size _ i0 3 Tryz.underlying53 hi (.slice (some ⟨w.heap.size, 0, none⟩) 0 0) _ _ rfl o1 rfl ?_)
  go_ret
  exact ⟨_, rfl, fun e => (by cases e), o1, allocBelow _ _⟩
set_option maxRecDepth 20000 in
set_option maxHeartbeats 2000000 in
theorem l5PutNil (k : Int) (d : ByteArray) (w : World) (hk : inB k 1 3 = true) (hd : d.size ≤ 1048576) :
    Calls Tryz.prog 39 #[.slice none 0 0, .int .i64 k, .string d] w fun e w' => PT 0 [(idN k d, k, d)] (idN k d) w e w' := by
  have hI := fun w => l5Id k d w hk hd
  have hF := l5Find none 0 [] (idN k d) w (fun k hk => absurd hk (Nat.not_lt_zero _)) (by simp)
  have e0 : fz [] (idN k d) = -1 := fz_none (fun j hj => absurd hj (Nat.not_lt_zero _))
  rw [e0] at hF
  obtain ⟨Id, hId⟩ : ∃ Id, idN k d = Id := ⟨_, rfl⟩
  rw [hId] at hI hF ⊢
  obtain ⟨i0, hi, hz0, hz1, hz2⟩ := info_parts infoObj
  have hF' : Calls Tryz.prog 60 #[.slice none 0 0, .string Id] w fun e w' => e = .returned (.int .i64 (-1)) ∧ w' = w := hF
  clear hF e0 hId
  go_enter Tryz.func39, Tryz.ntmps39
  go_wp2_with fail
  refine (hI _).mono ?_; rintro e w ⟨rfl, rfl⟩
  go_wp2_with fail
  refine hF'.mono ?_; rintro e w ⟨rfl, rfl⟩
  go_wp2
  go_loop [11] (fun i => i = .int .i64 0) (fun _ => 0)
  case atStart => rfl
  case round =>
    subst hrel
    go_wp2_with fail
    refine (l5CopyNil _).mono ?_; rintro e w1 ⟨v1, rfl, n1, o1, b1⟩
    have bA := allocBelow w1 (.cells #[.string Id, .int .i64 k, .string d] 93)
    have oA := o1.kept (grownOfBelow bA none) (blockCases _ _ (fun _ _ h => by cases h))
    have nA := newsCells w1 #[.string Id, .int .i64 k, .string d] 93
    have hlg : ∀ j, v1.ownBlock = some j → w.heap.size ≤ j := fun j hj => (o1.lt j hj).1
    have s1 := b1.size
    go_wp2_with (first
      | (at_builtin; refine wpList_appO rfl (.tmp 52) (.tmp 57) rfl w.heap.size v1 [] rfl oA ⟨w1.heap.size, 0, none⟩ 1 [(Id, k, d)] rfl (by rw [ocells_one]; exact nA) (by simp) (by simp; omega) ?_; intro v2 w2 o2 g2 n2 k2
         have B2 : Below w.heap.size w w2 := (b1.trans (bA.mono s1)).grown g2 (by simp; omega) (fun j hj => hlg j hj)
         have n2' : v2 ≠ .slice none 0 0 := fun e => n1 (n2.1 e).1)
      | (at_builtin; refine wpList_append_own_none rfl (.tmp 59) (.tmp 62) _ rfl w.heap.size _ i0 3 Tryz.underlying53 hi v2 _ _ rfl o2 rfl ?_)
      | go_in)
    refine bodyPost_ret (v := .tuple #[v2, .string Id, .int .i64 0]) (by simp [results, Tryz.results39, go_sem]) rfl ?_
    exact ⟨_, rfl, fun _ => n2', o2, B2⟩
theorem conv_two (a b : Nat) (ha : a < 256) (hb : b < 256) (x y : Int) (hx : x = (a : Int)) (hy : y = (b : Int)) (W : World) (g c : Nat) (h0 : W.cell? ⟨g, 0, none⟩ = some (.int .u8 x)) (h1 : W.cell? ⟨g, 1, none⟩ = some (.int .u8 y)) :
    (convert 22 9 (.slice (some ⟨g, 0, none⟩) 2 c)).run Tryz.prog W = .ok (.string ⟨#[a.toUInt8, b.toUInt8]⟩) W := by
  have ea : (a.toUInt8.toNat : Int) = (a : Int) := by
    have : a.toUInt8.toNat = a % 256 := by simp
    omega
  have eb : (b.toUInt8.toNat : Int) = (b : Int) := by
    have : b.toUInt8.toNat = b % 256 := by simp
    omega
  refine run_convert_bytes_back _ 22 9 5 ⟨g, 0, none⟩ c [a.toUInt8, b.toUInt8] Tryz.underlying22 Tryz.underlying5 Tryz.underlying9 ?_
  intro j hj
  have : j = 0 ∨ j = 1 := by simp at hj; omega
  rcases this with rfl | rfl
  · show _ = some (Value.int .u8 (a.toUInt8.toNat : Int))
    rw [ea, ← hx, add_plain]
    exact h0
  · show _ = some (Value.int .u8 (b.toUInt8.toNat : Int))
    rw [eb, ← hy, add_plain]
    exact h1
theorem conv_oneG (a : Nat) (ha : a < 256) (x : Int) (hx : x = (a : Int)) (W : World) (g c : Nat) (h0 : W.cell? ⟨g, 0, none⟩ = some (.int .u8 x)) :
    (convert 22 9 (.slice (some ⟨g, 0, none⟩) 1 c)).run Tryz.prog W = .ok (.string ⟨#[a.toUInt8]⟩) W := by
  have ea : (a.toUInt8.toNat : Int) = (a : Int) := by
    have : a.toUInt8.toNat = a % 256 := by simp
    omega
  refine run_convert_bytes_back _ 22 9 5 ⟨g, 0, none⟩ c [a.toUInt8] Tryz.underlying22 Tryz.underlying5 Tryz.underlying9 ?_
  intro j hj
  have : j = 0 := by simp at hj; omega
  subst this
  show _ = some (Value.int .u8 (a.toUInt8.toNat : Int))
  rw [ea, ← hx, add_plain]
  exact h0
def MgPost (w : World) (e : Ending) (w' : World) : Prop := ∃ (g1 c1 : Nat) (l1 : List Ob) (g2 c2 : Nat) (l2 : List Ob), e = .returned (.tuple #[.slice (some ⟨g1, 0, none⟩) l1.length c1, .slice (some ⟨g2, 0, none⟩) l2.length c2]) ∧ OB w'.heap.size w' (some ⟨g1, 0, none⟩) l1 ∧ OB w'.heap.size w' (some ⟨g2, 0, none⟩) l2 ∧ SmO l1 ∧ SmO l2 ∧ Below w.heap.size w w'
theorem rowPos {w : World} {base : Nat} {e : TypeId} {s : Nat} {v : Value} {n : Nat} {xs : List Value} (h : w.ownsRow base e s v n xs) (hn : v ≠ .slice none 0 0) : ∃ g c, v = .slice (some ⟨g, 0, none⟩) n c := by
  rcases h.2 with ⟨e, _⟩ | ⟨g, c, cur, e, _⟩
  · exact absurd e hn
  · exact ⟨g, c, e⟩
theorem one_sm (d : ByteArray) (h : d.size ≤ 101) : SmO [(idN 1 d, 1, d)] := by
  refine ⟨by simp, fun o ho => ?_⟩
  rw [List.mem_singleton.1 ho]
  exact ⟨idN_small 1 d, h⟩
end Go.Proofs.YtkgcpndnlefkoaaGreatDoor
/- A text that is cut or turned somewhere, as the specification draws it; rows of texts. No statement is proved here. -/
set_option linter.unusedVariables false
namespace Go.Proofs.YtkgcpndnlefkoaaGreatDoor
open Go.ChangeShapes Go.WideShapes Go.ChangeAt Go.RowKit

theorem conv_oneP (a : Nat) (ha : a < 256) (x : Int) (hx : x = (a : Int)) (W : World) (g c : Nat) (h0 : W.cell? ⟨g, 0, none⟩ = some (.int .u8 x)) :
    (convert 22 9 (.slice (some ⟨g, 0, none⟩) 1 c)).run Tryz.prog W = .ok (.string ⟨#[a.toUInt8]⟩) W := by
  have ea : (a.toUInt8.toNat : Int) = (a : Int) := by
    have : a.toUInt8.toNat = a % 256 := by simp
    omega
  refine run_convert_bytes_back _ 22 9 5 ⟨g, 0, none⟩ c [a.toUInt8] Tryz.underlying22 Tryz.underlying5 Tryz.underlying9 ?_
  intro j hj
  have : j = 0 := by simp at hj; omega
  subst this
  show _ = some (Value.int .u8 (a.toUInt8.toNat : Int))
  rw [ea, ← hx, add_plain]
  exact h0
/-- A row of texts that lie in a block of their own. -/
def LitB (W : World) (g : Nat) (n m : Nat) : Prop := ∀ j, j < n → ∃ x : ByteArray, W.cell? ⟨g, j, none⟩ = some (.string x) ∧ x.size ≤ m
theorem lit_new (w : World) (xs : List ByteArray) (t : TypeId) (m : Nat) (hm : ∀ x ∈ xs, x.size ≤ m) : LitB (w.alloc (.cells (xs.map Value.string).toArray t)) w.heap.size xs.length m := by
  intro j hj
  refine ⟨xs[j], ?_, hm _ (List.getElem_mem hj)⟩
  rw [cell_of_row _ w.heap.size j _ _ _ (heap_alloc_new w _)]
  simp [hj]
theorem LitB.kept {W W' : World} {g n m : Nat} {row : Option Nat} (h : LitB W g n m) (hg : W.grownBy W' row) (hne : some g ≠ row) : LitB W' g n m := fun j hj => by
  obtain ⟨x, hx, hz⟩ := h j hj
  exact ⟨x, hg.cell hx hne, hz⟩
def CutP (b : Nat) (m : Nat) (w : World) (e : Ending) (w' : World) : Prop := ∃ x : ByteArray, e = .returned (.string x) ∧ x.size ≤ m ∧ w.grownBy w' (some b)
theorem ext_sz (t : ByteArray) (i j : Nat) : (t.extract i j).size ≤ t.size := by rw [ByteArray.size_extract]; omega
theorem grD {w w' : World} {r : Option Nat} (h : w.grownBy w' r) : w.grownBy w'.drew r := ⟨h.os, h.tape, h.output, h.size, h.block⟩
theorem grDN {w w' : World} {r : Option Nat} (h : w.grownBy w' r) (n : Nat) : w.grownBy (w'.drewN n) r := ⟨h.os, h.tape, h.output, h.size, h.block⟩
theorem grA {w : World} {o : Obj} {r : Option Nat} : w.grownBy (w.alloc o) r := World.grownBy_alloc w o r
theorem grT2 {w w1 w2 : World} {r : Option Nat} (h : w.grownBy w1 r) (h2 : w1.grownBy w2 r) : w.grownBy w2 r := grown_trans h h2
end Go.Proofs.YtkgcpndnlefkoaaGreatDoor
