/- The contract of the library's sort at objects. No statement is proved here. -/
import Derived.Test.YtnififnogdekiaaRows
import Derived.Test.YtnififnogdekiaaLemQ
import Derived.Test.YtnififnogdekiaaDTabQ
import Derived.Test.YtnififnogdekiaaHkTQ
import Derived.Test.YtnififnogdekiaaObLQ
import Derived.Test.YtnififnogdekiaaShPQ
import Derived.Test.YtnififnogdekiaaShQQ
import Derived.Test.YtnififnogdekiaaPuLQ
import Derived.Test.YtnififnogdekiaaShelfCQ
import Derived.Test.YtnififnogdekiaaShelfGQ
import Derived.WalkKit
import Derived.ProofKit
import Derived.Below
import Derived.WalkSpells
import Derived.Sort.OwnSorted
namespace Go.Proofs.Ytnififnogdekiaa
open Go.ChangeShapes Go.WideShapes Go.ChangeAt Go.RowKit Go.Sort

def encO (o : Ob) : List Value := [.string o.1, .int .i64 o.2.1, .string o.2.2]
theorem flatO (l : List Ob) : (flatK encO 3 l.toArray).toList = ocells l := by
  unfold flatK ocells rowG
  rw [Array.toList_map, Array.toList_range, show l.toArray.size = l.length by simp]
  refine List.map_congr_left fun t ht => ?_
  have ht := List.mem_range.1 ht
  have h3 : t / 3 < l.length := by omega
  have e : (l.toArray)[t / 3]! = l.getD (t / 3) onil := by simp [List.getD, h3]
  rw [e]
  unfold ocell encO
  have hm : t % 3 = 0 ∨ t % 3 = 1 ∨ t % 3 = 2 := by omega
  rcases hm with h | h | h <;> simp [h]
theorem holdsO {w : World} {base g cap : Nat} {l : List Ob} (h : w.ownsRow base 31 3 (.slice (some ⟨g, 0, none⟩) l.length cap) l.length (ocells l)) : HoldsK encO 3 w g 0 l.toArray := by
  intro j hj
  rw [size_flatK] at hj
  have hj2 : j < l.length * 3 := by simpa using hj
  rw [Nat.zero_add]
  refine ⟨?_, h.frozenAt j⟩
  rw [h.cellAt j (by omega), ← flatO, Array.getElem?_toList]
  show (flatK encO 3 l.toArray)[j]? = some (flatK encO 3 l.toArray)[j]!
  rw [getElem!_pos _ j (by rw [size_flatK]; exact hj), Array.getElem?_eq_getElem (by rw [size_flatK]; exact hj)]
theorem heapO {w : World} {g n : Nat} {os : Array Obj} {cur : Array Value} {e : TypeId} {fr : Nat × Nat} (d : Array Ob) (hb : w.heap[g]? = some (.cells cur e fr)) :
    (sortWorldK encO 3 w g 0 n d os).heap[g]? = some (.cells (putCells id 0 (flatK encO 3 d) cur) e fr) := by
  have hg : g < w.heap.size := (Array.getElem?_eq_some_iff.1 hb).1
  unfold sortWorldK putRowK
  rw [heap_grow_old _ _ (by simpa using hg)]
  simp [putRow, mapBlock, Sort.ahead, Array.getElem?_modify, hb, onCells]
theorem grownO {w : World} {g n : Nat} {os : Array Obj} (d : Array Ob) : w.grownBy (sortWorldK encO 3 w g 0 n d os) (some g) := by
  unfold sortWorldK putRowK
  refine ⟨rfl, rfl, rfl, by simp, fun k hk hne => ?_⟩
  rw [heap_grow_old _ _ (by simpa using hk)]
  have : g ≠ k := fun e => hne (by rw [e])
  simp [putRow, mapBlock, Sort.ahead, Array.getElem?_modify, this]
theorem takeO (cur F : Array Value) (h : F.size ≤ cur.size) : (putCells id 0 F cur).toList.take F.size = F.toList := by
  apply List.ext_getElem?
  intro j
  by_cases hj : j < F.size
  · rw [List.getElem?_take_of_lt hj, Array.getElem?_toList]
    simp [putCells, hj, show j < cur.size by omega]
  · rw [List.getElem?_take_eq_none (by omega), List.getElem?_eq_none (by simp; omega)]
theorem ownO {w : World} {base g cap n : Nat} {e : TypeId} {os : Array Obj} {cur : Array Value} {k : Nat} {m : List Ob} (hl : m.length = k) (hbase : base ≤ g) (hb : w.heap[g]? = some (.cells cur e (0, 0)))
    (h1 : k ≤ cap) (h2 : cap ≤ maxLen) (h3 : cur.size = cap * 3) :
    (sortWorldK encO 3 w g 0 n m.toArray os).ownsRow base e 3 (.slice (some ⟨g, 0, none⟩) k cap) k (ocells m) :=
  ⟨by rw [ocells_length, hl], .inr ⟨g, cap, _, rfl, hbase, heapO _ hb, h1, h2, by simp [putCells, h3], by
    have hs : (flatK encO 3 m.toArray).size = k * 3 := by rw [size_flatK]; simp [hl]
    have := takeO cur (flatK encO 3 m.toArray) (by rw [hs, h3]; omega)
    rw [hs, flatO] at this
    exact this⟩⟩
/-- What the comparison of two objects answers. -/
def cfO (o p : Ob) : Int := Lib.compareBytes o.1.data.toList p.1.data.toList
theorem cmp_lt : ∀ a b : List UInt8, decide (Lib.compareBytes a b < 0) = Op.bytesLess a b
  | [], [] => rfl
  | [], _ :: _ => rfl
  | _ :: _, [] => rfl
  | x :: a, y :: b => by
    have ih := cmp_lt a b
    unfold Lib.compareBytes Op.bytesLess
    by_cases h1 : x < y
    · simp [h1]
    · by_cases h2 : y < x
      · have h3 : ¬ x = y := fun e => by rw [e] at h1 h2; exact h1 h2
        simp [h1, h2, h3]
      · have e : x = y := by
          apply UInt8.toNat_inj.1
          have a1 : ¬ x.toNat < y.toNat := h1
          have a2 : ¬ y.toNat < x.toNat := h2
          omega
        subst e
        simp [h1, ih]
theorem ltOf_eq (o p : Ob) : ltOf cfO o p = ltO o p := by
  unfold ltOf cfO ltO
  rw [cmp_lt, ByteArray.toList_eq, ByteArray.toList_eq]
theorem swoO : SWO (ltOf cfO) where
  irrefl x := by rw [ltOf_eq]; exact bl_irr _
  trans x y z h1 h2 := by rw [ltOf_eq] at *; exact bl_trans _ _ _ h1 h2
  ntrans x y z h1 h2 := by
    rw [ltOf_eq] at *
    cases h : ltO x z with
    | false => rfl
    | true =>
      unfold ltO at *
      rcases bl_total x.1.toList y.1.toList with k | k | k
      · rw [k] at h1; cases h1
      · rw [k] at h; rw [h] at h2; cases h2
      · have := bl_trans _ _ _ k h
        rw [this] at h2; cases h2
set_option maxHeartbeats 1000000 in
theorem byIdC (x y : Ob) (W : World) : Calls Try.prog 42 #[.agg #[.string x.1, .int .i64 x.2.1, .string x.2.2], .agg #[.string y.1, .int .i64 y.2.1, .string y.2.2]] W fun e w' => e = .returned (.int .i64 (cfO x y)) ∧ ∃ q os', w' = grow (W.drewN q) os' := by
  have hcon := fun W' => Try.strings_Compare x.1 y.1 W'
  unfold cfO
  generalize Lib.compareBytes x.1.data.toList y.1.data.toList = r at hcon ⊢
  go_enter Try.func42, Try.ntmps42
  go_wp2_with (go_at_call 54; refine (hcon _).mono ?_; rintro e w' ⟨rfl, rfl⟩)
  first
    | (go_ret; exact ⟨rfl, 0, _, by rw [alloc_eq_grow, alloc_eq_grow, grow_grow]; rfl⟩)
    | (go_ret; exact ⟨rfl, 1, _, by rw [alloc_eq_grow, alloc_eq_grow, grow_grow]; rfl⟩)
theorem cmpO (blk off size : Nat) (w : World) : CmpLays Try.prog 42 #[] encO 3 cfO blk off size w :=
  fun _ _ _ _ x y => byIdC x y _
theorem enterById : ∀ args w, (callFunc 42 args).run Try.prog w = .ok (.enter 42 args) w := enters_of Try.func42 (by kernel_rfl) rfl
theorem sortedO {l : List Ob} {d : Array Ob} (hp : PermIn 0 l.toArray.size l.toArray d) (hs : SortedIn (ltOf cfO) 0 l.toArray.size d) : d.toList.Perm l ∧ d.toList.Pairwise fun o p => ltO p o = false := by
  obtain ⟨h1, _, h3⟩ := hp
  have e1 : (d.extract 0 l.toArray.size) = d := by rw [← h1]; simp
  have e2 : (l.toArray.extract 0 l.toArray.size) = l.toArray := by simp
  rw [e1, e2] at h3
  refine ⟨by simpa using h3, ?_⟩
  rw [List.pairwise_iff_getElem]
  intro i j hi hj hij
  have := hs i j (Nat.zero_le _) hij (by rw [← h1]; simpa using hj)
  rw [ltOf_eq] at this
  have hi' : i < d.size := by simpa using hi
  have hj' : j < d.size := by simpa using hj
  rw [getElem!_pos d i hi', getElem!_pos d j hj'] at this
  simpa using this
theorem sortC (base : Nat) (v : Value) (acc : List Ob) (w : World) (h : w.ownsRow base 31 3 v acc.length (ocells acc)) (hn : acc.length ≤ 1048576) :
    Calls Try.prog 41 #[v, .func (.func 42) #[] #[]] w fun e w' => e = .returned (.tuple #[]) ∧ ∃ m : List Ob, m.Perm acc ∧ (m.Pairwise fun o p => ltO p o = false) ∧ w'.ownsRow base 31 3 v acc.length (ocells m) ∧ w.grownBy w' v.ownBlock := by
  cases acc with
  | nil =>
    obtain ⟨a, c, rfl⟩ : ∃ a c, v = .slice a 0 c := by
      rcases h.2 with ⟨h', _⟩ | ⟨g, cap, cur, h', _⟩
      · exact ⟨none, 0, h'⟩
      · exact ⟨_, _, h'⟩
    refine (AnyF.slices_SortFunc_none Try.laysSortO a c _ w).mono ?_
    rintro e w' ⟨rfl, rfl⟩
    exact ⟨rfl, [], List.Perm.refl _, List.Pairwise.nil, h, World.grownBy.refl _ _⟩
  | cons o t =>
    rcases h.2 with ⟨_, h0⟩ | ⟨g, cap, cur, rfl, hbase, hb, h1, h2, h3, h4⟩
    · simp at h0
    · have hH := holdsO h
      have hg : g < w.heap.size := (Array.getElem?_eq_some_iff.1 hb).1
      have hc := AnyQ.slices_SortFunc Try.laysSortO 3 Try.isAgg31 Try.sizeOf31 encO (fun _ => rfl) (fun x v hv => by simp [encO] at hv; rcases hv with rfl | rfl | rfl <;> rfl) cfO swoO 42 #[] g 0 cap (o :: t).toArray w enterById (cmpO g 0 _ w) hH hg (by simp at hn ⊢; omega)
      refine hc.mono ?_
      rintro e w' ⟨rfl, d, n, os, hp, hs, rfl⟩
      obtain ⟨p1, p2⟩ := sortedO hp hs
      refine ⟨rfl, d.toList, p1, p2, ?_, ?_⟩
      · have := ownO (os := os) (n := n) (m := d.toList) (by rw [p1.length_eq]) hbase hb h1 h2 h3
        simpa using this
      · exact grownO d
end Go.Proofs.Ytnififnogdekiaa
