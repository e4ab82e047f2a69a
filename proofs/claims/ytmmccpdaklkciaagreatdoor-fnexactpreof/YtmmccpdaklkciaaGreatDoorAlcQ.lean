/- A new table of the program's: all its cells are zero. No statement is proved here. -/
import Derived.Test.YtmmccpdaklkciaaGreatDoorRows
import Derived.Test.YtmmccpdaklkciaaGreatDoorDTabQ
import Derived.WalkKit
import Derived.ProofKit
import Derived.Below
import Derived.OwnWalk
import Derived.Test.YtmmccpdaklkciaaGreatDoorLemQ
import Derived.Test.YtmmccpdaklkciaaGreatDoorComQ
import Derived.Test.YtmmccpdaklkciaaGreatDoorSTabQ
import Derived.WalkSpells
import Derived.Deep.QuietTactic
import Derived.BigQuiet
import Derived.Maps.AppendAt
import Derived.Deep.RegionLaw
namespace Go.Proofs.YtmmccpdaklkciaaGreatDoor
open Go.ChangeShapes Go.WideShapes Go.ChangeAt Go.RowKit

def isZ : Value → Bool
  | .int .i64 n => n == 0
  | _ => false
def isF : Value → Bool
  | .bool b => !b
  | _ => false
theorem isZ_eq {v : Value} (h : isZ v = true) : v = .int .i64 0 := by
  unfold isZ at h
  split at h
  · rw [eq_of_beq h]
  · cases h
theorem isF_eq {v : Value} (h : isF v = true) : v = .bool false := by
  unfold isF at h
  split at h
  · simp at h; rw [h]
  · cases h
def tabCheck : Option Value → Bool
  | some (.agg Z) => (Z.size == 10202) && ((Z.toList.take 202).all isZ && (Z.toList.drop 202).all isF)
  | _ => false
theorem tableInfo : (Tryz.prog.info? 290).map (fun i => tabCheck i.zero) = some true := by kernel_rfl
theorem tableZero : ∃ (i : TypeInfo) (Z : Array Value), Tryz.prog.info? 290 = some i ∧ i.zero = some (.agg Z) ∧ (∀ k, k < 202 → Z[k]? = some (.int .i64 0)) ∧ (∀ k, 202 ≤ k → k < 10202 → Z[k]? = some (.bool false)) := by
  have h := tableInfo
  rcases e : Tryz.prog.info? 290 with _ | i
  · rw [e] at h; cases h
  · rw [e] at h
    simp only [Option.map_some, Option.some.injEq] at h
    unfold tabCheck at h
    split at h
    · rename_i Z hz
      simp only [Bool.and_eq_true] at h
      obtain ⟨h1, h2, h3⟩ := h
      have hs : Z.size = 10202 := eq_of_beq h1
      rw [List.all_eq_true] at h2 h3
      refine ⟨i, Z, rfl, hz, ?_, ?_⟩
      · intro k hk
        rw [Array.getElem?_eq_getElem (by omega)]
        refine congrArg some (isZ_eq ?_)
        apply h2
        rw [List.mem_take_iff_getElem]
        exact ⟨k, by simp; omega, by simp⟩
      · intro k hk hk2
        rw [Array.getElem?_eq_getElem (by omega)]
        refine congrArg some (isF_eq ?_)
        apply h3
        rw [List.mem_drop_iff_getElem]
        exact ⟨k - 202, by simp; omega, by simp [show 202 + (k - 202) = k by omega]⟩
    · cases h

/-- 'var table diffTable'. -/
theorem wpList_table {w : World} {ops : Array Oper} {rest : List Oper} {o : Oper} {a : Act} {Q : Exit → Act → World → Prop} (hgd : o.guard = none) (ho : o.op = .alloc 290)
    (h : ∀ w', DT w' w.heap.size (fun _ _ => 0) (fun _ _ => false) → Below w.heap.size w w' → Hid (w'.heap.size = w.heap.size + 1) → wpList Tryz.prog ops Q rest (a.put o.dst (.pointer (some ⟨w.heap.size, 0, none⟩))) w') :
    wpList Tryz.prog ops Q (o :: rest) a w := by
  obtain ⟨i, Z, hi, hz, h1, h2⟩ := tableZero
  refine wpList_plain hgd fun K hK => ?_
  have hrun : (Instr.alloc 290 true (.tuple #[])).run Tryz.prog w = .ok (.pointer (some ⟨w.heap.size, 0, none⟩)) (w.alloc (.cells Z 290)) := by
    have hv : (zeroValue 290).run Tryz.prog w = .ok (.agg Z) w := by
      simp [zeroValue, typeInfo, hi, hz]
    simp [Instr.alloc, hv, newVar, newRow, Value.cells]
  unfold Oper.wp
  simp [execOp, ho, hrun, Result.andThen]
  refine hK _ _ (h _ ?_ ((Below.refl _ _).alloc (Nat.le_refl _) _) (by show _ = _; simp))
  have hb := heap_alloc_new w (.cells Z 290)
  have hf : ∀ o, (w.alloc (.cells Z 290)).frozen? ⟨w.heap.size, o, none⟩ = false := fun o => by unfold World.frozen?; rw [hb]; simp
  refine ⟨fun r j hr hj => ⟨?_, hf _⟩, fun i j hi hj => ⟨?_, hf _⟩⟩
  · rw [cell_of_row _ _ _ _ _ _ hb]; exact h1 _ (by omega)
  · rw [cell_of_row _ _ _ _ _ _ hb]; exact h2 _ (by omega) (by omega)
end Go.Proofs.YtmmccpdaklkciaaGreatDoor
/- The contracts of the walks that choose lines (spec.l2Match, impl.matchedPlaces). No statement is proved here. -/
namespace Go.Proofs.YtmmccpdaklkciaaGreatDoor
open Go.ChangeShapes Go.WideShapes Go.ChangeAt Go.RowKit

def fsts (l : List (Nat × Nat)) : List Value := l.map fun p => .int .i64 (p.1 : Int)
def snds (l : List (Nat × Nat)) : List Value := l.map fun p => .int .i64 (p.2 : Int)
/-- Two lists of places, each in memory of its own. -/
structure Pr (base : Nat) (w : World) (v1 v2 : Value) (l : List (Nat × Nat)) : Prop where
  o1 : w.ownsRow base 2 1 v1 l.length (fsts l)
  o2 : w.ownsRow base 2 1 v2 l.length (snds l)
  ap : ∀ j, v1.ownBlock = some j → v2.ownBlock = some j → False
theorem Pr.kept {base : Nat} {w w' : World} {v1 v2 : Value} {l : List (Nat × Nat)} {row : Option Nat} (h : Pr base w v1 v2 l) (hg : w.grownBy w' row) (hr : ∀ j, row = some j → j < base) : Pr base w' v1 v2 l :=
  ⟨h.o1.kept hg (blockCases _ _ fun j h1 h2 => by have := (h.o1.lt j h1).1; have := hr j h2; omega), h.o2.kept hg (blockCases _ _ fun j h1 h2 => by have := (h.o2.lt j h1).1; have := hr j h2; omega), h.ap⟩
theorem Pr.below {base : Nat} {w w' : World} {v1 v2 : Value} {l : List (Nat × Nat)} (h : Pr base w v1 v2 l) (hb : Below w.heap.size w w') : Pr base w' v1 v2 l := h.kept (grownOfBelow hb none) (fun _ e => by cases e)
theorem Pr.drewN {base : Nat} {w : World} {v1 v2 : Value} {l : List (Nat × Nat)} (h : Pr base w v1 v2 l) (n : Nat) : Pr base (w.drewN n) v1 v2 l := ⟨h.o1, h.o2, h.ap⟩
theorem Pr.mono {base b : Nat} {w : World} {v1 v2 : Value} {l : List (Nat × Nat)} (h : Pr base w v1 v2 l) (hb : b ≤ base) : Pr b w v1 v2 l := ⟨ownMono h.o1 hb, ownMono h.o2 hb, h.ap⟩
theorem Pr.mid {base : Nat} {w w1 : World} {v1 v2 : Value} {l : List (Nat × Nat)} {o o' : Obj} (h : Pr base w v1 v2 l) (g1 : (w.alloc o).grownBy w1 v1.ownBlock) : (w1.alloc o').ownsRow base 2 1 v2 l.length (snds l) :=
  ((h.o2.alloc o).kept g1 (blockCases _ _ fun j h1 h2 => h.ap j h2 h1)).alloc o'
theorem Pr.push {base i j : Nat} {w w1 w2 : World} {v1 v2 v1' v2' : Value} {l : List (Nat × Nat)} {o o' : Obj} (h : Pr base w v1 v2 l)
    (p1 : w1.ownsRow base 2 1 v1' (l.length + 1) (fsts l ++ [.int .i64 (i : Int)])) (g1 : (w.alloc o).grownBy w1 v1.ownBlock) (k1 : v1'.ownBlock = v1.ownBlock ∨ v1'.ownBlock = some (w.alloc o).heap.size)
    (p2 : w2.ownsRow base 2 1 v2' (l.length + 1) (snds l ++ [.int .i64 (j : Int)])) (g2 : (w1.alloc o').grownBy w2 v2.ownBlock) (k2 : v2'.ownBlock = v2.ownBlock ∨ v2'.ownBlock = some (w1.alloc o').heap.size) :
    Pr base w2 v1' v2' (l ++ [(i, j)]) := by
  have hs1 := g1.size
  simp only [World.size_alloc] at hs1 k1 k2
  have hap : ∀ j, v1'.ownBlock = some j → v2.ownBlock = some j → False := by
    intro j h1 h2
    rcases k1 with k | k
    · exact h.ap j (k ▸ h1) h2
    · rw [k] at h1
      have := (h.o2.lt j h2).2
      simp only [Option.some.injEq] at h1
      omega
  refine ⟨?_, ?_, ?_⟩
  · have := (p1.alloc o').kept g2 (blockCases _ _ fun j h1 h2 => hap j h1 h2)
    simpa [fsts] using this
  · simpa [snds] using p2
  · intro j h1 h2
    rcases k2 with k | k
    · exact hap j h1 (k ▸ h2)
    · rw [k] at h2
      have := (p1.lt j h1).2
      simp only [Option.some.injEq] at h2
      omega
def PairsPost (w : World) (l : List (Nat × Nat)) (e : Ending) (w' : World) : Prop := ∃ v1 v2, e = .returned (.tuple #[v1, v2]) ∧ Pr w.heap.size w' v1 v2 l ∧ Below w.heap.size w w'
/-- The table's places that tell which line is passed over. -/
def Skips (p : Nat) (xs ys : List ByteArray) (w : World) : Prop :=
  ∀ i j, i < xs.length → j < ys.length → ¬ xs.getD i ByteArray.empty = ys.getD j ByteArray.empty → w.cell? ⟨p, 202 + i * 100 + j, none⟩ = some (.bool (skipA xs ys i j))
theorem Skips.grown {p : Nat} {xs ys : List ByteArray} {w w' : World} {row : Option Nat} (h : Skips p xs ys w) (hg : w.grownBy w' row) (hr : some p ≠ row) : Skips p xs ys w' := fun i j h1 h2 h3 => hg.cell (h i j h1 h2 h3) hr
theorem Skips.below {p : Nat} {xs ys : List ByteArray} {w w' : World} (h : Skips p xs ys w) (hb : Below w.heap.size w w') : Skips p xs ys w' := h.grown (grownOfBelow hb none) (by simp)
theorem FillAt.skips {p : Nat} {xs ys : List ByteArray} {w : World} (h : FillAt p xs ys 0 w) (m1 : xs.length ≤ 100) (m2 : ys.length ≤ 100) : Skips p xs ys w := by
  obtain ⟨cm, sk, hD, _, hs⟩ := h
  intro i j h1 h2 h3
  rw [(hD.2 i j (by omega) (by omega)).1, hs i j (Nat.zero_le _) h1 h2 h3]
theorem belowRow {B base : Nat} {a w w' : World} {v : Value} {n : Nat} {xs : List Value} (h : Below B a w) (ho : w.ownsRow base 2 1 v n xs) (hb : B ≤ base) (hs : B ≤ w.heap.size) (hg : w.grownBy w' v.ownBlock) : Below B a w' := h.grown hg hs (fun j hj => by have := (ho.lt j hj).1; omega)
/-- The specification's table, below block B. -/
def TC (B : Nat) (xs ys : List ByteArray) (g : Nat) (w : World) : Prop :=
  g < B ∧ ∀ i, i ≤ xs.length → ∃ r, r < B ∧ w.cell? ⟨g, i, none⟩ = some (.slice (some ⟨r, 0, none⟩) (ys.length + 1) (ys.length + 1)) ∧ ∀ j, j ≤ ys.length → w.cell? ⟨r, j, none⟩ = some (.int .i64 (comAt xs ys i j : Int))
theorem TC.grown {B : Nat} {xs ys : List ByteArray} {g : Nat} {w w' : World} {row : Option Nat} (h : TC B xs ys g w) (hg : w.grownBy w' row) (hr : ∀ j, row = some j → B ≤ j) : TC B xs ys g w' := by
  refine ⟨h.1, fun i hi => ?_⟩
  obtain ⟨r, hrB, h1, h2⟩ := h.2 i hi
  have := h.1
  exact ⟨r, hrB, hg.cell h1 (fun e => by have := hr g e.symm; omega), fun j hj => hg.cell (h2 j hj) (fun e => by have := hr r e.symm; omega)⟩
theorem Tab.toTC {base : Nat} {xs ys : List ByteArray} {w : World} {g c : Nat} {rs : List Nat} {T : Nat → Nat → Int} (h : Tab base (ys.length + 1) w g c (xs.length + 1) rs T) (hc : ∀ i j, i ≤ xs.length → j ≤ ys.length → T i j = (comAt xs ys i j : Int)) : TC w.heap.size xs ys g w :=
  ⟨(h.outer.lt g rfl).2, fun i hi => ⟨rs.getD i 0, (h.ge i (by omega)).2, h.c1 i (by omega), fun j hj => by rw [h.c2 i j (by omega) (by omega), hc i j hi hj]⟩⟩
theorem grownAlloc (w : World) (o : Obj) : w.grownBy (w.alloc o) none := World.grownBy_alloc _ _ _
theorem ownNil (w : World) (base : Nat) : w.ownsRow base 2 1 (.slice none 0 0) 0 [] := ⟨rfl, .inl ⟨rfl, rfl⟩⟩
theorem ownLit (w : World) (base : Nat) (hb : base ≤ w.heap.size) : (w.alloc (.cells #[] 2)).ownsRow base 2 1 (.slice (some ⟨w.heap.size, 0, none⟩) 0 0) 0 [] := World.ownsRow_lit w #[] 0 hb (Nat.zero_le _) rfl

set_option maxRecDepth 20000 in
set_option maxHeartbeats 4000000 in
theorem l2Match (a1 a2 : Option Addr) (c1 c2 : Nat) (xs ys : List ByteArray) (w : World) (h1 : SS w a1 xs) (h2 : SS w a2 ys) (n1 : xs.length ≤ 100) (n2 : ys.length ≤ 100) :
    Calls Tryz.prog 234 #[.slice a1 xs.length c1, .slice a2 ys.length c2] w fun e w' => PairsPost w (mat xs ys 0 0) e w' := by
  obtain ⟨i0, hi, hz0, hz1, hz2⟩ := info_parts infoI64
  go_enter Tryz.func234, Tryz.ntmps234
  go_wp2_with fail
  refine (l2Table _ _ _ _ _ _ _ h1 h2 n1 n2).mono ?_; rintro e w1 ⟨g, c, rs, T, rfl, hT, hc, b1⟩
  have hX0 : TC w1.heap.size xs ys g w1 := hT.toTC hc
  obtain ⟨B, hB⟩ : ∃ B, w1.heap.size = B := ⟨_, rfl⟩
  have HB : Hid (w1.heap.size = B) := hB
  rw [hB] at hX0
  have hwB : w.heap.size ≤ B := by have := b1.size; omega
  clear hT hc hB
  go_wp2
  have hbel0 : Below w.heap.size w ((w1.alloc (.cells #[] 2)).alloc (.cells #[] 2)) := (b1.alloc b1.size _).alloc (by have := b1.size; simp; omega) _
  have hX1 : TC B xs ys g ((w1.alloc (.cells #[] 2)).alloc (.cells #[] 2)) := (hX0.grown (grownAlloc _ _) (fun _ e => by cases e)).grown (grownAlloc _ _) (fun _ e => by cases e)
  have hP0 : Pr B ((w1.alloc (.cells #[] 2)).alloc (.cells #[] 2)) (.slice (some ⟨w1.heap.size, 0, none⟩) 0 0) (.slice (some ⟨w1.heap.size + 1, 0, none⟩) 0 0) [] := by
    refine ⟨(ownLit w1 B (by rw [HB.out]; exact Nat.le_refl _)).alloc _, ?_, fun j e1 e2 => ?_⟩
    · have := ownLit (w1.alloc (.cells #[] 2)) B (by rw [World.size_alloc, HB.out]; omega)
      simpa [snds] using this
    · simp only [Value.ownBlock, Option.some.injEq] at e1 e2
      omega
  have hBs : B ≤ ((w1.alloc (.cells #[] 2)).alloc (.cells #[] 2)).heap.size := by have := HB.out; simp; omega
  clear hX0 b1
  go_loopw [7, 8, 9, 10] (fun v1 v2 vi vj wr => ∃ (i j : Nat) (l : List (Nat × Nat)), vi = .int .i64 (i : Int) ∧ vj = .int .i64 (j : Int) ∧ i ≤ xs.length ∧ j ≤ ys.length ∧ l.length ≤ i ∧ Hid (l ++ mat xs ys i j = mat xs ys 0 0) ∧ Pr B wr v1 v2 l ∧ TC B xs ys g wr ∧ Below w.heap.size w wr ∧ B ≤ wr.heap.size) (fun _ _ vi vj _ => (xs.length - (intOf vi).toNat) + (ys.length - (intOf vj).toNat))
  case atStart => exact ⟨0, 0, [], rfl, rfl, Nat.zero_le _, Nat.zero_le _, Nat.le_refl _, rfl, hP0, hX1, hbel0, hBs⟩
  case round =>
    clear hP0 hX1 hbel0 hBs
    obtain ⟨i, j, l, rfl, rfl, hi1, hj1, hl, hL, hP, hX, hbel, hBr⟩ := hrel
    by_cases hij : i < xs.length ∧ j < ys.length
    · obtain ⟨hix, hjy⟩ := hij
      have q1 : (i : Int) < (xs.length : Int) := by omega
      have q2 : (j : Int) < (ys.length : Int) := by omega
      obtain ⟨b, off, ea, hb, hc⟩ := (h1.below hbel).2 i hix
      obtain ⟨b', off', ea', hb', hc'⟩ := (h2.below hbel).2 j hjy
      subst ea ea'
      obtain ⟨s, hse⟩ : ∃ s, s = xs.getD i ByteArray.empty := ⟨_, rfl⟩
      obtain ⟨t, hte⟩ : ∃ t, t = ys.getD j ByteArray.empty := ⟨_, rfl⟩
      rw [← hse] at hc
      rw [← hte] at hc'
      have HS : Hid (s = xs.getD i ByteArray.empty) := hse
      have HT : Hid (t = ys.getD j ByteArray.empty) := hte
      clear hse hte
      by_cases hst : s = t
      · have hbe := beq_bytes_true hst
        have hm := mat_eq xs ys i j hix hjy (by rw [← HS.out, ← HT.out]; exact hst)
        have HL2 : Hid ((l ++ [(i, j)]) ++ mat xs ys (i + 1) (j + 1) = mat xs ys 0 0) := by
          show _ = _
          rw [← hL.out, hm, List.append_assoc]; rfl
        clear hst hm hL HS HT
        have hxB : ∀ k, u7.ownBlock = some k → B ≤ k := fun k hk => (hP.o1.lt k hk).1
        have hyB : ∀ k, u8.ownBlock = some k → B ≤ k := fun k hk => (hP.o2.lt k hk).1
        go_wp2
        go_quiet (fail)
        have hP' := hP.drewN nq
        have hX' : TC B xs ys g (wr.drewN nq) := hX
        have hbel' := below_drewN' hbel nq
        have hBr' : B ≤ (wr.drewN nq).heap.size := hBr
        obtain ⟨W, hW⟩ : ∃ W, wr.drewN nq = W := ⟨_, rfl⟩
        rw [hW] at hP' hX' hbel' hBr' ⊢
        clear hW hP hX hbel hBr hc hc' hb hb' h1 h2
        go_wp2_with (first | (at_builtin; refine wpList_append_own_at _ rfl (.tmp 35) (.tmp 37) 250 rfl B 2 i0 (.int .i64 0) 1 8 Tryz.underlying250 hi hz0 hz1 hz2 rfl (by decide) _ _ _ rfl (hP'.o1.alloc _) ⟨W.heap.size, 0, none⟩ 1 1 [.int .i64 (i : Int)] rfl rfl (cell_one_new _ _ _) (by simp [Value.oneCell']) (by unfold maxLen; omega) (by omega) (by simp; omega) ?_; intro v1' W1 p1 g1 _ k1; have z1 := g1.size; simp only [World.size_alloc] at z1) | (at_builtin; refine wpList_append_own_at _ rfl (.tmp 39) (.tmp 41) 250 rfl B 2 i0 (.int .i64 0) 1 8 Tryz.underlying250 hi hz0 hz1 hz2 rfl (by decide) _ _ _ rfl (hP'.mid g1) ⟨W1.heap.size, 0, none⟩ 1 1 [.int .i64 (j : Int)] rfl rfl (cell_one_new _ _ _) (by simp [Value.oneCell']) (by unfold maxLen; omega) (by omega) (by simp; omega) ?_; intro v2' W2 p2 g2 _ k2; have z2 := g2.size; simp only [World.size_alloc] at z2))
        have HP2 : Hid (Pr B W2 v1' v2' (l ++ [(i, j)])) := hP'.push p1 g1 k1 p2 g2 k2
        have HX2 : Hid (TC B xs ys g W2) := (((hX'.grown (grownAlloc _ _) (fun _ e => by cases e)).grown g1 hxB).grown (grownAlloc _ _) (fun _ e => by cases e)).grown g2 hyB
        have HB2 : Hid (Below w.heap.size w W2) := ((((hbel'.alloc (by omega) _).grown g1 (by simp; omega) (fun k hk => by have := hxB k hk; omega)).alloc (by omega) _).grown g2 (by simp; omega) (fun k hk => by have := hyB k hk; omega))
        have HZ : Hid (B ≤ W2.heap.size) := by show _ ≤ _; omega
        clear hP' hX' hbel' hBr' p1 g1 k1 p2 g2 k2 z1 z2 hxB hyB
        go_roundw
        case rel => exact ⟨i + 1, j + 1, l ++ [(i, j)], by go_num, by go_num, hix, hjy, by simp; omega, HL2, HP2.out, HX2.out, HB2.out, HZ.out⟩
        case measure => first | (simp [intOf]; omega) | simp [intOf]
      · have hbe := beq_bytes_false hst
        obtain ⟨r, hrB, d1, D2⟩ := hX.2 (i + 1) (by omega)
        obtain ⟨r', hrB', d3, D4⟩ := hX.2 i (by omega)
        have d2 := D2 j (by omega)
        have d4 := D4 (j + 1) (by omega)
        clear D2 D4
        cases hsk : skipA xs ys i j with
        | true =>
          have hm := mat_skipA xs ys i j hix hjy (by rw [← HS.out, ← HT.out]; exact hst) hsk
          have HL2 : Hid (l ++ mat xs ys (i + 1) j = mat xs ys 0 0) := by
            show _ = _
            rw [← hL.out, hm]
          have hab := of_decide_eq_true hsk
          obtain ⟨A, hA⟩ : ∃ A : Int, (comAt xs ys (i + 1) j : Int) = A := ⟨_, rfl⟩
          obtain ⟨C, hC⟩ : ∃ C : Int, (comAt xs ys i (j + 1) : Int) = C := ⟨_, rfl⟩
          rw [hA] at d2
          rw [hC] at d4
          have hAC : C ≤ A := by omega
          clear hab hA hC hst hm hL HS HT hsk
          go_wp2
          go_quiet (fail)
          go_wp2
          go_quiet (fail)
          go_wp2
          go_roundw
          case rel => exact ⟨i + 1, j, l, by first | rfl | go_num | (congr 1; omega), by first | rfl | go_num | (congr 1; omega), by omega, by omega, by omega, HL2, hP.drewN _, hX, below_drewN' hbel _, hBr⟩
          case measure => first | (simp [intOf]; omega) | simp [intOf]
        | false =>
          have hm := mat_skipB xs ys i j hix hjy (by rw [← HS.out, ← HT.out]; exact hst) hsk
          have HL2 : Hid (l ++ mat xs ys i (j + 1) = mat xs ys 0 0) := by
            show _ = _
            rw [← hL.out, hm]
          have hab := of_decide_eq_false hsk
          obtain ⟨A, hA⟩ : ∃ A : Int, (comAt xs ys (i + 1) j : Int) = A := ⟨_, rfl⟩
          obtain ⟨C, hC⟩ : ∃ C : Int, (comAt xs ys i (j + 1) : Int) = C := ⟨_, rfl⟩
          rw [hA] at d2
          rw [hC] at d4
          have hAC : ¬ C ≤ A := by omega
          clear hab hA hC hst hm hL HS HT hsk
          go_wp2
          go_quiet (fail)
          go_wp2
          go_quiet (fail)
          go_wp2
          go_roundw
          case rel => exact ⟨i, j + 1, l, by first | rfl | go_num | (congr 1; omega), by first | rfl | go_num | (congr 1; omega), by omega, by omega, by omega, HL2, hP.drewN _, hX, below_drewN' hbel _, hBr⟩
          case measure => first | (simp [intOf]; omega) | simp [intOf]
    · have HF : Hid (PairsPost w (mat xs ys 0 0) (.returned (.tuple #[u7, u8])) wr) := by
        have hm := mat_end xs ys i j hij
        have := hL.out
        rw [hm, List.append_nil] at this
        rw [← this]
        exact ⟨u7, u8, rfl, hP.mono (by omega), hbel⟩
      by_cases hix : i < xs.length
      · have q1 : (i : Int) < (xs.length : Int) := by omega
        have q2 : ¬ (j : Int) < (ys.length : Int) := by omega
        clear hP hX hbel hL hij
        go_wp2
        go_ret2
        exact HF.out
      · have q1 : ¬ (i : Int) < (xs.length : Int) := by omega
        clear hP hX hbel hL hij
        go_wp2
        go_ret2
        exact HF.out

set_option maxRecDepth 20000 in
set_option maxHeartbeats 4000000 in
theorem matchedPlaces (a1 a2 : Option Addr) (c1 c2 : Nat) (xs ys : List ByteArray) (w : World) (h1 : SS w a1 xs) (h2 : SS w a2 ys) (n1 : xs.length ≤ 100) (n2 : ys.length ≤ 100) :
    Calls Tryz.prog 225 #[.slice a1 xs.length c1, .slice a2 ys.length c2] w fun e w' => PairsPost w (mat xs ys 0 0) e w' := by
  obtain ⟨i0, hi, hz0, hz1, hz2⟩ := info_parts infoI64
  go_enter Tryz.func225, Tryz.ntmps225
  go_wp2_with (first | fail | (refine wpList_table rfl rfl ?_; intro W1 hD b1 z1))
  have t1 := h1.toB.below b1
  have t2 := h2.toB.below b1
  refine (fill _ _ _ _ _ _ _ _ hD t1 t2 n1 n2).mono ?_; rintro e w2 ⟨rfl, hF, g2⟩
  obtain ⟨p, hp⟩ : ∃ p, w.heap.size = p := ⟨_, rfl⟩
  have HP : Hid (w.heap.size = p) := hp
  have hX0 : Skips w.heap.size xs ys w2 := hF.skips n1 n2
  have hbel0 : Below w.heap.size w w2 := b1.grown g2 b1.size (fun k hk => by cases hk; exact Nat.le_refl _)
  have hz2' : Hid (w.heap.size + 1 ≤ w2.heap.size) := by have := z1.out; have := g2.size; show _ ≤ _; omega
  obtain ⟨B, hB⟩ : ∃ B, w2.heap.size = B := ⟨_, rfl⟩
  have HB : Hid (w2.heap.size = B) := hB
  have hwB : w.heap.size < B := by have := hz2'.out; omega
  have hBs : B ≤ w2.heap.size := by omega
  have hP0 : Pr B w2 (.slice none 0 0) (.slice none 0 0) [] := ⟨ownNil _ _, ownNil _ _, fun j e1 _ => by cases e1⟩
  clear hD t1 t2 hF g2 b1 z1 hp hB HP hz2'
  go_wp2
  go_loopw [7, 8, 9, 10] (fun v1 v2 vi vj wr => ∃ (i j : Nat) (l : List (Nat × Nat)), vi = .int .i64 (i : Int) ∧ vj = .int .i64 (j : Int) ∧ i ≤ xs.length ∧ j ≤ ys.length ∧ l.length ≤ i ∧ Hid (l ++ mat xs ys i j = mat xs ys 0 0) ∧ Pr B wr v1 v2 l ∧ Skips w.heap.size xs ys wr ∧ Below w.heap.size w wr ∧ B ≤ wr.heap.size) (fun _ _ vi vj _ => (xs.length - (intOf vi).toNat) + (ys.length - (intOf vj).toNat))
  case atStart => exact ⟨0, 0, [], rfl, rfl, Nat.zero_le _, Nat.zero_le _, Nat.le_refl _, rfl, hP0, hX0, hbel0, hBs⟩
  case round =>
    clear hP0 hX0 hbel0 hBs
    obtain ⟨i, j, l, rfl, rfl, hi1, hj1, hl, hL, hP, hX, hbel, hBr⟩ := hrel
    by_cases hij : i < xs.length ∧ j < ys.length
    · obtain ⟨hix, hjy⟩ := hij
      have q1 : (i : Int) < (xs.length : Int) := by omega
      have q2 : (j : Int) < (ys.length : Int) := by omega
      obtain ⟨b, off, ea, hb, hc⟩ := (h1.below hbel).2 i hix
      obtain ⟨b', off', ea', hb', hc'⟩ := (h2.below hbel).2 j hjy
      subst ea ea'
      obtain ⟨s, hse⟩ : ∃ s, s = xs.getD i ByteArray.empty := ⟨_, rfl⟩
      obtain ⟨t, hte⟩ : ∃ t, t = ys.getD j ByteArray.empty := ⟨_, rfl⟩
      rw [← hse] at hc
      rw [← hte] at hc'
      have HS : Hid (s = xs.getD i ByteArray.empty) := hse
      have HT : Hid (t = ys.getD j ByteArray.empty) := hte
      clear hse hte
      by_cases hst : s = t
      · have hbe := beq_bytes_true hst
        have hm := mat_eq xs ys i j hix hjy (by rw [← HS.out, ← HT.out]; exact hst)
        have HL2 : Hid ((l ++ [(i, j)]) ++ mat xs ys (i + 1) (j + 1) = mat xs ys 0 0) := by
          show _ = _
          rw [← hL.out, hm, List.append_assoc]; rfl
        clear hst hm hL HS HT
        have hxB : ∀ k, u7.ownBlock = some k → B ≤ k := fun k hk => (hP.o1.lt k hk).1
        have hyB : ∀ k, u8.ownBlock = some k → B ≤ k := fun k hk => (hP.o2.lt k hk).1
        go_wp2
        go_quiet (fail)
        have hP' := hP.drewN nq
        have hX' : Skips w.heap.size xs ys (wr.drewN nq) := hX
        have hbel' := below_drewN' hbel nq
        have hBr' : B ≤ (wr.drewN nq).heap.size := hBr
        obtain ⟨W, hW⟩ : ∃ W, wr.drewN nq = W := ⟨_, rfl⟩
        rw [hW] at hP' hX' hbel' hBr' ⊢
        clear hW hP hX hbel hBr hc hc' hb hb' h1 h2
        go_wp2_with (first | (at_builtin; refine wpList_append_own_at _ rfl (.tmp 36) (.tmp 38) 250 rfl B 2 i0 (.int .i64 0) 1 8 Tryz.underlying250 hi hz0 hz1 hz2 rfl (by decide) _ _ _ rfl (hP'.o1.alloc _) ⟨W.heap.size, 0, none⟩ 1 1 [.int .i64 (i : Int)] rfl rfl (cell_one_new _ _ _) (by simp [Value.oneCell']) (by unfold maxLen; omega) (by omega) (by simp; omega) ?_; intro v1' W1 p1 g1 _ k1; have z1 := g1.size; simp only [World.size_alloc] at z1) | (at_builtin; refine wpList_append_own_at _ rfl (.tmp 40) (.tmp 42) 250 rfl B 2 i0 (.int .i64 0) 1 8 Tryz.underlying250 hi hz0 hz1 hz2 rfl (by decide) _ _ _ rfl (hP'.mid g1) ⟨W1.heap.size, 0, none⟩ 1 1 [.int .i64 (j : Int)] rfl rfl (cell_one_new _ _ _) (by simp [Value.oneCell']) (by unfold maxLen; omega) (by omega) (by simp; omega) ?_; intro v2' W2 p2 g2 _ k2; have z2 := g2.size; simp only [World.size_alloc] at z2))
        have HP2 : Hid (Pr B W2 v1' v2' (l ++ [(i, j)])) := hP'.push p1 g1 k1 p2 g2 k2
        have HX2 : Hid (Skips w.heap.size xs ys W2) := (((hX'.grown (grownAlloc _ _) (by simp)).grown g1 (fun e => by have := hxB _ e.symm; omega)).grown (grownAlloc _ _) (by simp)).grown g2 (fun e => by have := hyB _ e.symm; omega)
        have HB2 : Hid (Below w.heap.size w W2) := ((((hbel'.alloc (by omega) _).grown g1 (by simp; omega) (fun k hk => by have := hxB k hk; omega)).alloc (by omega) _).grown g2 (by simp; omega) (fun k hk => by have := hyB k hk; omega))
        have HZ : Hid (B ≤ W2.heap.size) := by show _ ≤ _; omega
        clear hP' hX' hbel' hBr' p1 g1 k1 p2 g2 k2 z1 z2 hxB hyB
        go_roundw
        case rel => exact ⟨i + 1, j + 1, l ++ [(i, j)], by go_num, by go_num, hix, hjy, by simp; omega, HL2, HP2.out, HX2.out, HB2.out, HZ.out⟩
        case measure => first | (simp [intOf]; omega) | simp [intOf]
      · have hbe := beq_bytes_false hst
        have d1 := hX i j hix hjy (by rw [← HS.out, ← HT.out]; exact hst)
        have q3 : (i : Int) < 100 := by omega
        have q4 : (j : Int) < 100 := by omega
        cases hsk : skipA xs ys i j with
        | true =>
          have hm := mat_skipA xs ys i j hix hjy (by rw [← HS.out, ← HT.out]; exact hst) hsk
          have HL2 : Hid (l ++ mat xs ys (i + 1) j = mat xs ys 0 0) := by
            show _ = _
            rw [← hL.out, hm]
          rw [hsk] at d1
          clear hst hm hL HS HT hsk
          go_wp2
          go_quiet (fail)
          go_wp2
          go_roundw
          case rel => exact ⟨i + 1, j, l, by first | rfl | go_num | (congr 1; omega), by first | rfl | go_num | (congr 1; omega), by omega, by omega, by omega, HL2, hP.drewN _, hX, below_drewN' hbel _, hBr⟩
          case measure => first | (simp [intOf]; omega) | simp [intOf]
        | false =>
          have hm := mat_skipB xs ys i j hix hjy (by rw [← HS.out, ← HT.out]; exact hst) hsk
          have HL2 : Hid (l ++ mat xs ys i (j + 1) = mat xs ys 0 0) := by
            show _ = _
            rw [← hL.out, hm]
          rw [hsk] at d1
          clear hst hm hL HS HT hsk
          go_wp2
          go_quiet (fail)
          go_wp2
          go_roundw
          case rel => exact ⟨i, j + 1, l, by first | rfl | go_num | (congr 1; omega), by first | rfl | go_num | (congr 1; omega), by omega, by omega, by omega, HL2, hP.drewN _, hX, below_drewN' hbel _, hBr⟩
          case measure => first | (simp [intOf]; omega) | simp [intOf]
    · have HF : Hid (PairsPost w (mat xs ys 0 0) (.returned (.tuple #[u7, u8])) wr) := by
        have hm := mat_end xs ys i j hij
        have := hL.out
        rw [hm, List.append_nil] at this
        rw [← this]
        exact ⟨u7, u8, rfl, hP.mono (by omega), hbel⟩
      by_cases hix : i < xs.length
      · have q1 : (i : Int) < (xs.length : Int) := by omega
        have q2 : ¬ (j : Int) < (ys.length : Int) := by omega
        clear hP hX hbel hL hij
        go_wp2
        go_ret2
        exact HF.out
      · have q1 : ¬ (i : Int) < (xs.length : Int) := by omega
        clear hP hX hbel hL hij
        go_wp2
        go_ret2
        exact HF.out
end Go.Proofs.YtmmccpdaklkciaaGreatDoor
/- Lists of changes in memory, and the contracts of impl.changesBetween and spec.l2Changes. No statement is proved here. -/
namespace Go.Proofs.YtmmccpdaklkciaaGreatDoor
open Go.ChangeShapes Go.WideShapes Go.ChangeAt Go.RowKit

def cells4 (c : Chg) : List Value := [.int .i64 c.1, .int .i64 c.2.1, .int .i64 c.2.2.1, .int .i64 c.2.2.2]
def chgCells : List Chg → List Value
  | [] => []
  | c :: l => cells4 c ++ chgCells l
theorem chgCells_append (l : List Chg) (c : Chg) : chgCells (l ++ [c]) = chgCells l ++ cells4 c := by
  induction l with
  | nil => simp [chgCells]
  | cons a l ih => simp [chgCells, ih]
theorem chgCells_length (l : List Chg) : (chgCells l).length = l.length * 4 := by
  induction l with
  | nil => rfl
  | cons a l ih => simp [chgCells, cells4, ih]; omega
theorem chgCells_at (l : List Chg) : ∀ (k j : Nat), k < l.length → j < 4 → (chgCells l)[k * 4 + j]? = (cells4 (l.getD k (0, 0, 0, 0)))[j]? := by
  induction l with
  | nil => intro k j h; exact absurd h (Nat.not_lt_zero _)
  | cons a l ih =>
    intro k j h hj
    have h4 : (cells4 a).length = 4 := rfl
    cases k with
    | zero =>
      rw [chgCells, List.getElem?_append_left (by omega)]
      simp
    | succ k =>
      rw [chgCells, List.getElem?_append_right (by omega), h4, show (k + 1) * 4 + j - 4 = k * 4 + j by omega, ih k j (by simp at h; omega) hj]
      simp
theorem newsRs {w : World} {b : Nat} {vs : List Value} (h : Rs w b vs) : ∀ j u, vs[j]? = some u → w.cell? ((⟨b, 0, none⟩ : Addr).add j) = some u := fun j u hu => by
  by_cases hj : j = 0
  · subst hj; simpa [Addr.add] using h 0 u hu
  · simpa [Addr.add, hj] using h j u hu
/-- The ends in memory below block B. -/
structure EB (B : Nat) (w : World) (g1 g2 : Nat) (E : List (Nat × Nat)) : Prop where
  l1 : g1 < B
  l2 : g2 < B
  c1 : ∀ k, k < E.length → w.cell? ⟨g1, k, none⟩ = some (.int .i64 ((E.getD k (0, 0)).1 : Int))
  c2 : ∀ k, k < E.length → w.cell? ⟨g2, k, none⟩ = some (.int .i64 ((E.getD k (0, 0)).2 : Int))
theorem EB.grown {B : Nat} {w w' : World} {g1 g2 : Nat} {E : List (Nat × Nat)} {row : Option Nat} (h : EB B w g1 g2 E) (hg : w.grownBy w' row) (hr : ∀ j, row = some j → B ≤ j) : EB B w' g1 g2 E :=
  ⟨h.l1, h.l2, fun k hk => hg.cell (h.c1 k hk) (fun e => by have := hr g1 e.symm; have := h.l1; omega), fun k hk => hg.cell (h.c2 k hk) (fun e => by have := hr g2 e.symm; have := h.l2; omega)⟩
theorem EB.drewN {B : Nat} {w : World} {g1 g2 : Nat} {E : List (Nat × Nat)} (h : EB B w g1 g2 E) (n : Nat) : EB B (w.drewN n) g1 g2 E := ⟨h.l1, h.l2, h.c1, h.c2⟩
theorem Pr.toEB {base : Nat} {w : World} {v1 v2 : Value} {E : List (Nat × Nat)} (h : Pr base w v1 v2 E) (hE : 0 < E.length) : ∃ g1 c1 g2 c2, v1 = .slice (some ⟨g1, 0, none⟩) E.length c1 ∧ v2 = .slice (some ⟨g2, 0, none⟩) E.length c2 ∧ EB w.heap.size w g1 g2 E := by
  have h1 := h.o1
  have h2 := h.o2
  rcases h1.2 with ⟨_, h0⟩ | ⟨g1, c1, cur1, rfl, _, hh1, _⟩
  · omega
  rcases h2.2 with ⟨_, h0⟩ | ⟨g2, c2, cur2, rfl, _, hh2, _⟩
  · omega
  refine ⟨g1, c1, g2, c2, rfl, rfl, (Array.getElem?_eq_some_iff.1 hh1).1, (Array.getElem?_eq_some_iff.1 hh2).1, fun k hk => ?_, fun k hk => ?_⟩
  · rw [h1.cellAt k (by omega)]; simp [fsts, List.getD, hk]
  · rw [h2.cellAt k (by omega)]; simp [snds, List.getD, hk]
theorem ownMono4 {w : World} {base b : Nat} {e : TypeId} {v : Value} {n : Nat} {xs : List Value} (h : w.ownsRow base e 4 v n xs) (hb : b ≤ base) : w.ownsRow b e 4 v n xs := by
  refine ⟨h.1, ?_⟩
  rcases h.2 with h' | ⟨g, cap, cur, h1, h2, h3⟩
  · exact .inl h'
  · exact .inr ⟨g, cap, cur, h1, by omega, h3⟩
theorem step_append_own {P : Program} {ops : Array Oper} {o : Oper} {a : Act} {w : World} {K : Act → World → Prop} {Q : Exit → Act → World → Prop} {E : Prop}
    (hg : o.guard = none) (s x : Operand) (t : TypeId) (hop : o.op = Op.call { callee := Callee.builtin Builtin.append, args := #[s, x], argTypes := #[t, t] })
    (base : Nat) (e : TypeId) (i : TypeInfo) (z : Value) (size bytes : Nat) (ht : P.underlying t = some (.slice e)) (hi : P.info? e = some i) (hz : i.zero = some z)
    (hsize : i.size = size) (hby : i.bytes = bytes) (hzs : z.cells.size = size) (hsz : 0 < size)
    (v : Value) (n : Nat) (xs : List Value) (hs : a.eval s = v) (hown : w.ownsRow base e size v n xs)
    (ad : Addr) (m c : Nat) (news : List Value) (hx : a.eval x = .slice (some ad) m c) (hl : news.length = m * size) (hnews : ∀ j u, news[j]? = some u → w.cell? (ad.add j) = some u) (h1 : ∀ u ∈ news, u.oneCell' = true)
    (h63 : n + m ≤ maxLen) (hbytes : (n + m) * bytes ≤ 140737488355328) (hbase : base ≤ w.heap.size)
    (hK : ∀ v' w', w'.ownsRow base e size v' (n + m) (xs ++ news) → w.grownBy w' v.ownBlock → K (a.put o.dst v') w') :
    if Region.wanted o (yielded ops a.tmps) = true then Oper.wp P o a w K Q else E := by
  have hw : Region.wanted o (yielded ops a.tmps) = true := by simp [Region.wanted, hg]
  rw [if_pos hw]
  obtain ⟨v', w', hr, h2, h3, h4, h5⟩ := run_append_own_at (P := P) w base t o.type e i z size bytes ht hi hz hsize hby hzs hsz v n xs hown ad m c news hl hnews h1 h63 hbytes hbase
  unfold Oper.wp
  simp [execOp, hop, resolve, invoke, builtin, hs, hx, hr, Result.andThen]
  exact hK _ _ h2 h3
theorem wrapId (x : Int) (h1 : -1000 ≤ x) (h2 : x ≤ 1000) : IntKind.i64.wrap x = x := by rw [IntKind.wrap_i64]; omega
theorem EB.drew {B : Nat} {w : World} {g1 g2 : Nat} {E : List (Nat × Nat)} (h : EB B w g1 g2 E) : EB B w.drew g1 g2 E := ⟨h.l1, h.l2, h.c1, h.c2⟩

end Go.Proofs.YtmmccpdaklkciaaGreatDoor
