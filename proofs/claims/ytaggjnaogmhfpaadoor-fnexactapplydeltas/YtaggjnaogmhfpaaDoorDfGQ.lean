/- slices.Grow of nil and slices.Concat at files. No statement is proved here. -/
import Derived.Test.YtaggjnaogmhfpaaDoorRows
import Derived.Test.YtaggjnaogmhfpaaDoorLemQ
import Derived.Test.YtaggjnaogmhfpaaDoorDTabQ
import Derived.Test.YtaggjnaogmhfpaaDoorInQ
import Derived.Test.YtaggjnaogmhfpaaDoorFlLQ
import Derived.Test.YtaggjnaogmhfpaaDoorFlAQ
import Derived.Test.YtaggjnaogmhfpaaDoorDfBQ
import Derived.Test.YtaggjnaogmhfpaaDoorDfQQ
import Derived.Lib.AppendZeros
import Derived.WalkKit
import Derived.ProofKit
import Derived.Below
import Derived.WalkSpells
import Derived.Deep.QuietTactic
import Derived.BigQuiet
import Derived.Deep.RegionWith
import Derived.Deep.RegionHeld
import Derived.Deep.RegionLaw
import Derived.Deep.CutRange
import Derived.Maps.AppendAt
import Derived.Laws.BitsLemmas
import Derived.Laws.Cover1
set_option linter.unusedVariables false
namespace Go.Proofs.YtaggjnaogmhfpaaDoor.Fl
open Go.ChangeShapes Go.WideShapes Go.ChangeAt Go.RowKit

/-- A row of nobody's, room for files. -/
theorem roomC (n : Nat) (w : World) (h0 : 0 < n) (hn : n ≤ 2000000) (z : Value) (hz : z.cells.size = 3) :
    (w.drew.alloc (.cells (Builtin.zeroCells z.cells n ++ Builtin.zeroCells z.cells (grownCap w n 0 52 - n)) 52)).ownsRow w.heap.size 52 3 (.slice (some ⟨w.heap.size, 0, none⟩) 0 (grownCap w n 0 52)) ([] : List Ob).length (ocells []) := by
  have h1 := grownCap_ge w n 0 52
  have h2 := grownCap_le_maxLen w n 0 52 (by unfold maxLen; omega)
  refine ⟨rfl, .inr ⟨w.heap.size, _, _, rfl, Nat.le_refl _, heap_alloc_new w.drew _, Nat.zero_le _, h2, ?_, ?_⟩⟩
  · rw [Array.size_append, size_zeroCells, size_zeroCells, hz, ← Nat.add_mul]
    congr 1
    omega
  · show List.take 0 _ = _
    rfl
set_option maxRecDepth 20000 in
set_option maxHeartbeats 4000000 in
theorem growNilC (n : Nat) (w : World) (hn : n ≤ 2000000) :
    Calls Tryd.prog 64 #[.slice none 0 0, .int .i64 n] w fun e w' => ∃ v, e = .returned v ∧ w'.ownsRow w.heap.size 52 3 v ([] : List Ob).length (ocells []) ∧ Below w.heap.size w w' := by
  obtain ⟨i0, hi, hz0, hz1, hz2⟩ := info_parts infoObj
  go_enter Tryd.func64, Tryd.ntmps64
  have q1 : ¬ (n : Int) < 0 := by omega
  by_cases h0 : n = 0
  · subst h0
    go_wp2
    go_ret
    exact ⟨_, rfl, ⟨rfl, .inl ⟨rfl, rfl⟩⟩, Below.refl _ _⟩
  · have q2 : (n : Int) > 0 := by omega
    have hr := Lib.run_append_nil_zeros (P := Tryd.prog) w 28 3 28 52 i0 _ .i64 .i64 Tryd.underlying28 Tryd.underlying3 hi hz0 n (by omega) (by rw [hz1]; decide) (by omega) (by rw [hz2]; omega)
    have hO := roomC n w (by omega) hn (.agg #[.string ⟨#[]⟩, .int .i64 0, .string ⟨#[]⟩]) rfl
    have hB : Below w.heap.size w (w.drew.alloc (.cells (Builtin.zeroCells (Value.cells (.agg #[.string ⟨#[]⟩, .int .i64 0, .string ⟨#[]⟩])) n ++ Builtin.zeroCells (Value.cells (.agg #[.string ⟨#[]⟩, .int .i64 0, .string ⟨#[]⟩])) (grownCap w n 0 52 - n)) 52)) := (Below.refl _ _).drew.alloc (Nat.le_refl _) _
    go_wp2_with (at_builtin; refine stopMark ?_)
    change wpList _ _ _ _ _ _
    refine Lib.wpList_append_run _ rfl (.tmp 20) (.tmp 21) _ _ rfl _ _ rfl rfl _ _ hr ?_
    obtain ⟨G, hG⟩ : ∃ G, grownCap w n 0 52 = G := ⟨_, rfl⟩
    rw [hG] at hO hB ⊢
    obtain ⟨W, hW⟩ : ∃ W, w.drew.alloc (.cells (Builtin.zeroCells (Value.cells (.agg #[.string ⟨#[]⟩, .int .i64 0, .string ⟨#[]⟩])) n ++ Builtin.zeroCells (Value.cells (.agg #[.string ⟨#[]⟩, .int .i64 0, .string ⟨#[]⟩])) (G - n)) 52) = W := ⟨_, rfl⟩
    rw [hW] at hO hB ⊢
    clear hr hW hG
    go_wp2
    go_ret
    exact ⟨_, rfl, hO, hB⟩
/-- Lists of files side by side: where each lies, its capacity, its files. -/
abbrev Li := Option Addr × Nat × List Ob
def lv (x : Li) : Value := .slice x.1 x.2.2.length x.2.1
def lnil : Li := (none, 0, [])
def allOf (LS : List Li) : List Ob := (LS.map (·.2.2)).flatten
theorem all_take {LS : List Li} {k : Nat} (h : k < LS.length) : allOf (LS.take (k + 1)) = allOf (LS.take k) ++ (LS.getD k lnil).2.2 := by
  unfold allOf
  rw [List.take_succ_eq_append_getElem h, List.map_append, List.flatten_append]
  simp [List.getD, h]
theorem all_len (LS : List Li) (k : Nat) : (allOf (LS.take k)).length ≤ (allOf LS).length := by
  have e : allOf LS = allOf (LS.take k) ++ allOf (LS.drop k) := by unfold allOf; rw [← List.flatten_append, ← List.map_append, List.take_append_drop]
  rw [e, List.length_append]; omega
/-- Files in memory of their own. -/
def FO (L : List Ob) (w : World) (e : Ending) (w' : World) : Prop := ∃ v, e = .returned v ∧ w'.ownsRow w.heap.size 52 3 v L.length (ocells L) ∧ Below w.heap.size w w'
set_option maxRecDepth 20000 in
set_option maxHeartbeats 8000000 in
theorem concatC (gB cc : Nat) (LS : List Li) (w : World) (hl : LS.length ≤ 1000) (hc : ∀ k, k < LS.length → w.cell? ⟨gB, k, none⟩ = some (lv (LS.getD k lnil))) (hg : gB < w.heap.size) (ho : ∀ k, k < LS.length → OB w.heap.size w (LS.getD k lnil).1 (LS.getD k lnil).2.2) (hz : ∀ k, k < LS.length → (LS.getD k lnil).1 = none → (LS.getD k lnil).2.1 = 0) (hn : (allOf LS).length ≤ 1000000) :
    Calls Tryd.prog 47 #[.slice (some ⟨gB, 0, none⟩) LS.length cc] w fun e w' => FO (allOf LS) w e w' := by
  have hTk := fun k (h : k < LS.length) => all_take (LS := LS) h
  have hLn := fun k => all_len LS k
  have hFin : LS.take LS.length = LS := List.take_length
  go_enter Tryd.func47, Tryd.ntmps47
  go_wp2
  go_loopw [11, 3] (fun i s wr => ∃ k, k ≤ LS.length ∧ i = .int .i64 k ∧ s = .int .i64 (allOf (LS.take k)).length ∧ wr = w) (fun i _ _ => LS.length - (intOf i).toNat)
  case atStart => exact ⟨0, Nat.zero_le _, rfl, rfl, rfl⟩
  case round =>
    obtain ⟨k, hk, rfl, rfl, hw0⟩ := hrel
    have hw1 := hw0.symm
    subst hw1
    clear hw0
    by_cases hlt : k < LS.length
    · have q0 : (k : Int) < (LS.length : Int) := by omega
      have d := hc k hlt
      have e1 := congrArg List.length (hTk k hlt)
      have e2 := hLn (k + 1)
      rw [List.length_append] at e1
      obtain ⟨⟨xa, xc, xl⟩, hx⟩ : ∃ x, LS.getD k lnil = x := ⟨_, rfl⟩
      rw [hx] at d e1
      unfold lv at d
      simp only [] at d e1
      obtain ⟨A, hA⟩ : ∃ n, (allOf (LS.take k)).length = n := ⟨_, rfl⟩
      obtain ⟨B, hB⟩ : ∃ n, xl.length = n := ⟨_, rfl⟩
      rw [hA, hB] at e1
      rw [hB] at d
      simp only [hA]
      have E1 : Hid ((allOf (LS.take (k + 1))).length = A + B) := e1
      have hw : wrap64 ((A : Int) + (B : Int)) = ((A + B : Nat) : Int) := by unfold wrap64; omega
      have q3 : ¬ ((A + B : Nat) : Int) < 0 := Int.not_lt.2 (Int.natCast_nonneg _)
      clear hTk hLn hFin hc ho hz e1 e2 hx hA hB
      go_wp2
      go_roundw
      case rel => exact ⟨k + 1, by omega, by go_num, (by rw [E1.out, hw]), trivial⟩
      case measure => first | (simp [intOf]; omega) | simp [intOf]
    · have q0 : ¬ (k : Int) < (LS.length : Int) := by omega
      have ek : k = LS.length := by omega
      subst ek
      rw [hFin]
      obtain ⟨A, hA⟩ : ∃ n, (allOf LS).length = n := ⟨_, rfl⟩
      rw [hA] at hn
      simp only [hA]
      have hGr := growNilC A w (by omega)
      go_wp2_with fail
      refine hGr.mono ?_; rintro e w1 ⟨v0, rfl, o1, b1⟩
      clear hGr
      go_wp2
      go_loopw [27, 6] (fun i v wr => ∃ k, k ≤ LS.length ∧ i = .int .i64 k ∧ wr.ownsRow w.heap.size 52 3 v (allOf (LS.take k)).length (ocells (allOf (LS.take k))) ∧ Below w.heap.size w wr) (fun i _ _ => LS.length - (intOf i).toNat)
      case atStart => exact ⟨0, Nat.zero_le _, rfl, o1, b1⟩
      case round =>
        obtain ⟨k, hk, rfl, hown, hbel⟩ := hrel
        by_cases hlt : k < LS.length
        · have q0 : (k : Int) < (LS.length : Int) := by omega
          have d := (hbel.cell (p := ⟨gB, k, none⟩) hg).trans (hc k hlt)
          have e1 := hTk k hlt
          have e2 := hLn (k + 1)
          have O2 := (ho k hlt)
          have z2 := hz k hlt
          rw [e1] at e2
          have E1 : Hid (allOf (LS.take (k + 1)) = allOf (LS.take k) ++ (LS.getD k lnil).2.2) := e1
          obtain ⟨⟨xa, xc, xl⟩, hx⟩ : ∃ x, LS.getD k lnil = x := ⟨_, rfl⟩
          rw [hx] at d e2 O2 z2 E1
          unfold lv at d
          simp only [] at d e2 O2 z2 E1
          obtain ⟨A, hA⟩ : ∃ n, allOf (LS.take k) = n := ⟨_, rfl⟩
          rw [hA] at e2 E1 hown
          rw [List.length_append] at e2
          clear hTk hLn hFin hc ho hz e1 hx hA
          have O3 : OB w.heap.size wr xa xl := belowAt O2 hbel (Nat.le_refl _)
          have z3 : w.heap.size ≤ wr.heap.size := hbel.size
          have HB : Hid (Below w.heap.size w wr) := hbel
          clear hbel O2
          go_wp2_with (at_builtin; refine stopMark ?_)
          change wpList _ _ _ _ _ _
          refine wpList_appO rfl (.tmp 31) (.tmp 32) rfl w.heap.size _ A rfl hown xa xc _ xl rfl O3 z2 (by omega) z3 ?_
          intro v' w' o3 g3
          have B3 : Hid (Below w.heap.size w w') := HB.out.grown g3 z3 (fun j hj => (hown.lt j hj).1)
          have O4 : Hid (w'.ownsRow w.heap.size 52 3 v' (allOf (LS.take (k + 1))).length (ocells (allOf (LS.take (k + 1))))) := by rw [E1.out]; exact o3
          clear o3 g3 hown O3 E1 HB
          go_wp2
          go_roundw
          case rel => exact ⟨k + 1, by omega, by go_num, O4.out, B3.out⟩
          case measure => first | (simp [intOf]; omega) | simp [intOf]
        · have q0 : ¬ (k : Int) < (LS.length : Int) := by omega
          have ek : k = LS.length := by omega
          subst ek
          rw [hFin] at hown
          clear hTk hLn hFin hc ho hz
          go_wp2
          go_ret
          exact ⟨_, rfl, hown, hbel⟩
end Go.Proofs.YtaggjnaogmhfpaaDoor.Fl
