/- slices.Grow of nil and slices.Concat at files. No statement is proved here. -/
import Derived.Test.YtkgcpndnlefkoaaGreatDoorRows
import Derived.Test.YtkgcpndnlefkoaaGreatDoorLemQ
import Derived.Test.YtkgcpndnlefkoaaGreatDoorDTabQ
import Derived.Test.YtkgcpndnlefkoaaGreatDoorInQ
import Derived.Test.YtkgcpndnlefkoaaGreatDoorLFLemQ
import Derived.Test.YtkgcpndnlefkoaaGreatDoorDfBQ
import Derived.Test.YtkgcpndnlefkoaaGreatDoorDfQQ
import Derived.Lib.AppendZeros
import Derived.WalkKit
import Derived.ProofKit
import Derived.Below
import Derived.WalkSpells
import Derived.Deep.QuietTactic
import Derived.BigQuiet
import Derived.Deep.RegionWith
import Derived.Deep.RegionHeld
import Derived.Deep.RegionLaw
import Derived.Deep.CutRange
import Derived.Maps.AppendAt
import Derived.Laws.BitsLemmas
import Derived.Laws.Cover1
import Derived.Test.YtkgcpndnlefkoaaGreatDoorFfCQ
import Derived.Test.YtkgcpndnlefkoaaGreatDoorShelfQ
import Derived.Test.YtkgcpndnlefkoaaGreatDoorDlLQ
set_option linter.unusedVariables false
namespace Go.Proofs.YtkgcpndnlefkoaaGreatDoor.Fl
open Go.ChangeShapes Go.WideShapes Go.ChangeAt Go.RowKit

/-- A row of nobody's, room for files. -/
theorem roomC (n : Nat) (w : World) (h0 : 0 < n) (hn : n ≤ 2000000) (z : Value) (hz : z.cells.size = 3) :
    (w.drew.alloc (.cells (Builtin.zeroCells z.cells n ++ Builtin.zeroCells z.cells (grownCap w n 0 42 - n)) 42)).ownsRow w.heap.size 42 3 (.slice (some ⟨w.heap.size, 0, none⟩) 0 (grownCap w n 0 42)) ([] : List Ob).length (ocells []) := by
  have h1 := grownCap_ge w n 0 42
  have h2 := grownCap_le_maxLen w n 0 42 (by unfold maxLen; omega)
  refine ⟨rfl, .inr ⟨w.heap.size, _, _, rfl, Nat.le_refl _, heap_alloc_new w.drew _, Nat.zero_le _, h2, ?_, ?_⟩⟩
  · rw [Array.size_append, size_zeroCells, size_zeroCells, hz, ← Nat.add_mul]
    congr 1
    omega
  · show List.take 0 _ = _
    rfl
set_option maxRecDepth 20000 in
set_option maxHeartbeats 4000000 in
theorem growNilC (n : Nat) (w : World) (hn : n ≤ 2000000) :
    Calls Tryz.prog 53 #[.slice none 0 0, .int .i64 n] w fun e w' => ∃ v, e = .returned v ∧ w'.ownsRow w.heap.size 42 3 v ([] : List Ob).length (ocells []) ∧ Below w.heap.size w w' := by
  obtain ⟨i0, hi, hz0, hz1, hz2⟩ := info_parts infoObj
  go_enter Tryz.func53, Tryz.ntmps53
  have q1 : ¬ (n : Int) < 0 := by omega
  by_cases h0 : n = 0
  · subst h0
    go_wp2
    go_ret
    exact ⟨_, rfl, ⟨rfl, .inl ⟨rfl, rfl⟩⟩, Below.refl _ _⟩
  · have q2 : (n : Int) > 0 := by omega
    have hr := Lib.run_append_nil_zeros (P := Tryz.prog) w 24 3 24 42 i0 _ .i64 .i64 Tryz.underlying24 Tryz.underlying3 hi hz0 n (by omega) (by rw [hz1]; decide) (by omega) (by rw [hz2]; omega)
    have hO := roomC n w (by omega) hn (.agg #[.string ⟨#[]⟩, .int .i64 0, .string ⟨#[]⟩]) rfl
    have hB : Below w.heap.size w (w.drew.alloc (.cells (Builtin.zeroCells (Value.cells (.agg #[.string ⟨#[]⟩, .int .i64 0, .string ⟨#[]⟩])) n ++ Builtin.zeroCells (Value.cells (.agg #[.string ⟨#[]⟩, .int .i64 0, .string ⟨#[]⟩])) (grownCap w n 0 42 - n)) 42)) := (Below.refl _ _).drew.alloc (Nat.le_refl _) _
    go_wp2_with (at_builtin; refine stopMark ?_)
    change wpList _ _ _ _ _ _
    refine Lib.wpList_append_run _ rfl (.tmp 20) (.tmp 21) _ _ rfl _ _ rfl rfl _ _ hr ?_
    obtain ⟨G, hG⟩ : ∃ G, grownCap w n 0 42 = G := ⟨_, rfl⟩
    rw [hG] at hO hB ⊢
    obtain ⟨W, hW⟩ : ∃ W, w.drew.alloc (.cells (Builtin.zeroCells (Value.cells (.agg #[.string ⟨#[]⟩, .int .i64 0, .string ⟨#[]⟩])) n ++ Builtin.zeroCells (Value.cells (.agg #[.string ⟨#[]⟩, .int .i64 0, .string ⟨#[]⟩])) (G - n)) 42) = W := ⟨_, rfl⟩
    rw [hW] at hO hB ⊢
    clear hr hW hG
    go_wp2
    go_ret
    exact ⟨_, rfl, hO, hB⟩
/-- Lists of files side by side: where each lies, its capacity, its files. -/
abbrev Li := Option Addr × Nat × List Ob
def lv (x : Li) : Value := .slice x.1 x.2.2.length x.2.1
def lnil : Li := (none, 0, [])
def allOf (LS : List Li) : List Ob := (LS.map (·.2.2)).flatten
theorem all_take {LS : List Li} {k : Nat} (h : k < LS.length) : allOf (LS.take (k + 1)) = allOf (LS.take k) ++ (LS.getD k lnil).2.2 := by
  unfold allOf
  rw [List.take_succ_eq_append_getElem h, List.map_append, List.flatten_append]
  simp [List.getD, h]
theorem all_len (LS : List Li) (k : Nat) : (allOf (LS.take k)).length ≤ (allOf LS).length := by
  have e : allOf LS = allOf (LS.take k) ++ allOf (LS.drop k) := by unfold allOf; rw [← List.flatten_append, ← List.map_append, List.take_append_drop]
  rw [e, List.length_append]; omega
/-- Files in memory of their own. -/
def FO (L : List Ob) (w : World) (e : Ending) (w' : World) : Prop := ∃ v, e = .returned v ∧ w'.ownsRow w.heap.size 42 3 v L.length (ocells L) ∧ Below w.heap.size w w'
set_option maxRecDepth 20000 in
set_option maxHeartbeats 8000000 in
theorem concatC (gB cc : Nat) (LS : List Li) (w : World) (hl : LS.length ≤ 1000) (hc : ∀ k, k < LS.length → w.cell? ⟨gB, k, none⟩ = some (lv (LS.getD k lnil))) (hg : gB < w.heap.size) (ho : ∀ k, k < LS.length → OB w.heap.size w (LS.getD k lnil).1 (LS.getD k lnil).2.2) (hz : ∀ k, k < LS.length → (LS.getD k lnil).1 = none → (LS.getD k lnil).2.1 = 0) (hn : (allOf LS).length ≤ 1000000) :
    Calls Tryz.prog 29 #[.slice (some ⟨gB, 0, none⟩) LS.length cc] w fun e w' => FO (allOf LS) w e w' := by
  have hTk := fun k (h : k < LS.length) => all_take (LS := LS) h
  have hLn := fun k => all_len LS k
  have hFin : LS.take LS.length = LS := List.take_length
  go_enter Tryz.func29, Tryz.ntmps29
  go_wp2
  go_loopw [11, 3] (fun i s wr => ∃ k, k ≤ LS.length ∧ i = .int .i64 k ∧ s = .int .i64 (allOf (LS.take k)).length ∧ wr = w) (fun i _ _ => LS.length - (intOf i).toNat)
  case atStart => exact ⟨0, Nat.zero_le _, rfl, rfl, rfl⟩
  case round =>
    obtain ⟨k, hk, rfl, rfl, hw0⟩ := hrel
    have hw1 := hw0.symm
    subst hw1
    clear hw0
    by_cases hlt : k < LS.length
    · have q0 : (k : Int) < (LS.length : Int) := by omega
      have d := hc k hlt
      have e1 := congrArg List.length (hTk k hlt)
      have e2 := hLn (k + 1)
      rw [List.length_append] at e1
      obtain ⟨⟨xa, xc, xl⟩, hx⟩ : ∃ x, LS.getD k lnil = x := ⟨_, rfl⟩
      rw [hx] at d e1
      unfold lv at d
      simp only [] at d e1
      obtain ⟨A, hA⟩ : ∃ n, (allOf (LS.take k)).length = n := ⟨_, rfl⟩
      obtain ⟨B, hB⟩ : ∃ n, xl.length = n := ⟨_, rfl⟩
      rw [hA, hB] at e1
      rw [hB] at d
      simp only [hA]
      have E1 : Hid ((allOf (LS.take (k + 1))).length = A + B) := e1
      have hw : wrap64 ((A : Int) + (B : Int)) = ((A + B : Nat) : Int) := by unfold wrap64; omega
      have q3 : ¬ ((A + B : Nat) : Int) < 0 := Int.not_lt.2 (Int.natCast_nonneg _)
      clear hTk hLn hFin hc ho hz e1 e2 hx hA hB
      go_wp2
      go_roundw
      case rel => exact ⟨k + 1, by omega, by go_num, (by rw [E1.out, hw]), trivial⟩
      case measure => first | (simp [intOf]; omega) | simp [intOf]
    · have q0 : ¬ (k : Int) < (LS.length : Int) := by omega
      have ek : k = LS.length := by omega
      subst ek
      rw [hFin]
      obtain ⟨A, hA⟩ : ∃ n, (allOf LS).length = n := ⟨_, rfl⟩
      rw [hA] at hn
      simp only [hA]
      have hGr := growNilC A w (by omega)
      go_wp2_with fail
      refine hGr.mono ?_; rintro e w1 ⟨v0, rfl, o1, b1⟩
      clear hGr
      go_wp2
      go_loopw [27, 6] (fun i v wr => ∃ k, k ≤ LS.length ∧ i = .int .i64 k ∧ wr.ownsRow w.heap.size 42 3 v (allOf (LS.take k)).length (ocells (allOf (LS.take k))) ∧ Below w.heap.size w wr) (fun i _ _ => LS.length - (intOf i).toNat)
      case atStart => exact ⟨0, Nat.zero_le _, rfl, o1, b1⟩
      case round =>
        obtain ⟨k, hk, rfl, hown, hbel⟩ := hrel
        by_cases hlt : k < LS.length
        · have q0 : (k : Int) < (LS.length : Int) := by omega
          have d := (hbel.cell (p := ⟨gB, k, none⟩) hg).trans (hc k hlt)
          have e1 := hTk k hlt
          have e2 := hLn (k + 1)
          have O2 := (ho k hlt)
          have z2 := hz k hlt
          rw [e1] at e2
          have E1 : Hid (allOf (LS.take (k + 1)) = allOf (LS.take k) ++ (LS.getD k lnil).2.2) := e1
          obtain ⟨⟨xa, xc, xl⟩, hx⟩ : ∃ x, LS.getD k lnil = x := ⟨_, rfl⟩
          rw [hx] at d e2 O2 z2 E1
          unfold lv at d
          simp only [] at d e2 O2 z2 E1
          obtain ⟨A, hA⟩ : ∃ n, allOf (LS.take k) = n := ⟨_, rfl⟩
          rw [hA] at e2 E1 hown
          rw [List.length_append] at e2
          clear hTk hLn hFin hc ho hz e1 hx hA
          have O3 : OB w.heap.size wr xa xl := belowAt O2 hbel (Nat.le_refl _)
          have z3 : w.heap.size ≤ wr.heap.size := hbel.size
          have HB : Hid (Below w.heap.size w wr) := hbel
          clear hbel O2
          go_wp2_with (at_builtin; refine stopMark ?_)
          change wpList _ _ _ _ _ _
          refine wpList_appO rfl (.tmp 31) (.tmp 32) rfl w.heap.size _ A rfl hown xa xc _ xl rfl O3 z2 (by omega) z3 ?_
          intro v' w' o3 g3
          have B3 : Hid (Below w.heap.size w w') := HB.out.grown g3 z3 (fun j hj => (hown.lt j hj).1)
          have O4 : Hid (w'.ownsRow w.heap.size 42 3 v' (allOf (LS.take (k + 1))).length (ocells (allOf (LS.take (k + 1))))) := by rw [E1.out]; exact o3
          clear o3 g3 hown O3 E1 HB
          go_wp2
          go_roundw
          case rel => exact ⟨k + 1, by omega, by go_num, O4.out, B3.out⟩
          case measure => first | (simp [intOf]; omega) | simp [intOf]
        · have q0 : ¬ (k : Int) < (LS.length : Int) := by omega
          have ek : k = LS.length := by omega
          subst ek
          rw [hFin] at hown
          clear hTk hLn hFin hc ho hz
          go_wp2
          go_ret
          exact ⟨_, rfl, hown, hbel⟩
end Go.Proofs.YtkgcpndnlefkoaaGreatDoor.Fl
/- The contracts of impl.isNoneOrAt, isDelta, cloneFiles. No statement is proved here. -/
set_option linter.unusedVariables false
namespace Go.Proofs.YtkgcpndnlefkoaaGreatDoor.Fl
open Go.ChangeShapes Go.WideShapes Go.ChangeAt Go.RowKit

/-- No file, or the file of a path. -/
def noA (f : Ob) (p : ByteArray) : Bool := decide (f = onil) || (f.1.toList == p.toList)
def isD (p : ByteArray) (f g : Ob) : Bool := decide (¬ f = g) && noA f p && noA g p
set_option maxRecDepth 20000 in
set_option maxHeartbeats 4000000 in
theorem noneAtC (f0 : ByteArray) (f1 : Int) (f2 p : ByteArray) (w : World) :
    Calls Tryz.prog 38 #[.agg #[.string f0, .int .i64 f1, .string f2], .string p] w fun e w' => e = .returned (.bool (noA (f0, f1, f2) p)) ∧ Below w.heap.size w w' := by
  have hB : ∀ o, Below w.heap.size w (w.alloc o) := fun o => (Below.refl _ _).alloc (Nat.le_refl _) _
  by_cases h : ((f0, f1, f2) : Ob) = onil
  · have fq := fun w => ef_nil h w
    have HC : Hid (noA (f0, f1, f2) p = true) := by show _ = _; unfold noA; rw [decide_eq_true h]; rfl
    clear h
    go_enter Tryz.func38, Tryz.ntmps38
    go_wp2
    go_ret
    exact ⟨congrArg (fun b => Ending.returned (.bool b)) HC.out.symm, hB _⟩
  · have fq := fun w => ef_some h w
    cases hq : (f0.toList == p.toList) with
    | true =>
      have HC : Hid (noA (f0, f1, f2) p = true) := by show _ = _; unfold noA; simp only [hq, Bool.or_true]
      clear h
      go_enter Tryz.func38, Tryz.ntmps38
      go_wp2
      go_ret
      exact ⟨congrArg (fun b => Ending.returned (.bool b)) HC.out.symm, hB _⟩
    | false =>
      have HC : Hid (noA (f0, f1, f2) p = false) := by show _ = _; unfold noA; simp only [hq, Bool.or_false]; rw [decide_eq_false h]
      clear h
      go_enter Tryz.func38, Tryz.ntmps38
      go_wp2
      go_ret
      exact ⟨congrArg (fun b => Ending.returned (.bool b)) HC.out.symm, hB _⟩
set_option maxRecDepth 20000 in
set_option maxHeartbeats 4000000 in
theorem isDeltaC (x0 x1 : ByteArray) (x2 : Int) (x3 x4 : ByteArray) (x5 : Int) (x6 : ByteArray) (w : World) :
    Calls Tryz.prog 20 #[.agg #[.string x0, .string x1, .int .i64 x2, .string x3, .string x4, .int .i64 x5, .string x6]] w fun e w' => e = .returned (.bool (isD x0 (x1, x2, x3) (x4, x5, x6))) ∧ Below w.heap.size w w' := by
  have hO := fun W => noneAtC x1 x2 x3 x0 W
  have hN := fun W => noneAtC x4 x5 x6 x0 W
  obtain ⟨W1, hW1⟩ : ∃ W, w.alloc (.cells #[.string x0, .string x1, .int .i64 x2, .string x3, .string x4, .int .i64 x5, .string x6] 47) = W := ⟨_, rfl⟩
  have b1 : Below w.heap.size w W1 := by rw [← hW1]; exact allocBelow _ _
  have zW : w.heap.size < W1.heap.size := by rw [← hW1]; simp
  have r1 : Rf W1 w.heap.size [.string x0, .string x1, .int .i64 x2, .string x3, .string x4, .int .i64 x5, .string x6] := by rw [← hW1]; exact Rf.new _ _ _
  have c0 := r1.at_ 0 _ rfl
  have c1 := r1.at_ 1 _ rfl
  have c2 := r1.at_ 2 _ rfl
  have c3 := r1.at_ 3 _ rfl
  have c4 := r1.at_ 4 _ rfl
  have c5 := r1.at_ 5 _ rfl
  have c6 := r1.at_ 6 _ rfl
  by_cases hE : ((x1, x2, x3) : Ob) = (x4, x5, x6)
  · have fq := fun w => ef_yes hE w
    have HC : Hid (isD x0 (x1, x2, x3) (x4, x5, x6) = false) := by show _ = _; unfold isD; rw [hE]; simp
    clear hE hO hN
    go_enter Tryz.func20, Tryz.ntmps20
    go_wp2
    go_ret
    exact ⟨congrArg (fun b => Ending.returned (.bool b)) HC.out.symm, b1⟩
  have fq := fun w => ef_no hE w
  have hI : isD x0 (x1, x2, x3) (x4, x5, x6) = (noA (x1, x2, x3) x0 && noA (x4, x5, x6) x0) := by unfold isD; rw [decide_eq_true hE, Bool.true_and]
  rw [hI]
  clear hI hE
  obtain ⟨P, hP⟩ : ∃ P, noA (x1, x2, x3) x0 = P := ⟨_, rfl⟩
  obtain ⟨Q, hQ⟩ : ∃ Q, noA (x4, x5, x6) x0 = Q := ⟨_, rfl⟩
  simp only [hP, hQ] at hO hN ⊢
  clear hP hQ
  go_enter Tryz.func20, Tryz.ntmps20
  go_wp2_with fail
  refine (hO _).mono ?_; rintro e w2 ⟨rfl, b2⟩
  have r2 := r1.below zW b2
  have B2 := b1.trans (b2.mono (Nat.le_of_lt zW))
  clear hO b1 b2 r1 c0 c1 c2 c3 c4 c5 c6
  have c0 := r2.at_ 0 _ rfl
  have c4 := r2.at_ 4 _ rfl
  have c5 := r2.at_ 5 _ rfl
  have c6 := r2.at_ 6 _ rfl
  clear r2
  cases P with
  | false =>
    clear hN
    go_wp2
    go_ret
    exact ⟨rfl, B2⟩
  | true =>
    go_wp2_with fail
    refine (hN _).mono ?_; rintro e w3 ⟨rfl, b3⟩
    have B3 : Hid (Below w.heap.size w w3) := B2.trans (b3.mono B2.size)
    clear hN B2 b3
    go_wp2
    go_ret
    exact ⟨by simp, B3.out⟩
/-- What is answered: files in memory of their own. -/
def SF (L : List Ob) (w : World) (e : Ending) (w' : World) : Prop := ∃ v, e = .returned v ∧ w'.ownsRow w.heap.size 42 3 v L.length (ocells L) ∧ Below w.heap.size w w'
set_option maxRecDepth 20000 in
set_option maxHeartbeats 8000000 in
theorem cloneFilesC (a : Option Addr) (c : Nat) (l : List Ob) (w : World) (h : OB w.heap.size w a l) (hs : SmallO l) (hn : l.length ≤ 1048576) :
    Calls Tryz.prog 22 #[.slice a l.length c] w fun e w' => SF l w e w' := by
  obtain ⟨n, hnn⟩ : ∃ n, l.length = n := ⟨_, rfl⟩
  rw [hnn]
  go_enter Tryz.func22, Tryz.ntmps22
  go_wp2
  go_loopw [8, 3] (fun i v wr => ∃ k : Nat, k ≤ n ∧ i = .int .i64 k ∧ wr.ownsRow w.heap.size 42 3 v (l.take k).length (ocells (l.take k)) ∧ Below w.heap.size w wr) (fun i _ _ => n - (intOf i).toNat)
  case atStart => exact ⟨0, Nat.zero_le _, rfl, ⟨rfl, .inl ⟨rfl, rfl⟩⟩, Below.refl _ _⟩
  case round =>
    obtain ⟨k, hk, rfl, hor, hbel⟩ := hrel
    have hsz := hbel.size
    by_cases hlt : k < n
    · have q0 : (k : Int) < (n : Int) := by omega
      have hkl : k < l.length := by omega
      obtain ⟨g, off, e, hg, d0, d1, d2⟩ := (h.below hbel) k hkl
      subst e
      have hsl := hs _ (ob_mem l k hkl)
      have e1 := ob_take l k hkl
      have e2 : (l.take k).length ≤ 1048576 := by rw [List.length_take]; omega
      have E1 : Hid (l.take (k + 1) = l.take k ++ [l.getD k onil]) := e1
      obtain ⟨T, hT⟩ : ∃ T, l.take k = T := ⟨_, rfl⟩
      rw [hT] at hor e2 E1
      obtain ⟨⟨x0, x1, x2⟩, hx⟩ : ∃ x, l.getD k onil = x := ⟨_, rfl⟩
      rw [hx] at d0 d1 d2 hsl E1
      simp only [] at d0 d1 d2 hsl
      have hC := fun W => cloneFileC (x0, x1, x2) W hsl.1 hsl.2
      simp only [] at hC
      have bW := allocBelow wr (.cells #[.string x0, .int .i64 x1, .string x2] 42)
      have B1 : Below w.heap.size w (wr.alloc (.cells #[.string x0, .int .i64 x1, .string x2] 42)) := hbel.trans (bW.mono hsz)
      have o1 := hor.kept (grownOfBelow bW none) (blockCases _ _ fun b c1 c2 => by cases c2)
      clear e1 hT hx hor bW hbel h hs
      go_wp2_with fail
      refine (hC _).mono ?_; rintro e w3 ⟨rfl, b3⟩
      have B3 := B1.trans (b3.mono B1.size)
      have o3 := o1.kept (grownOfBelow b3 none) (blockCases _ _ fun b c1 c2 => by cases c2)
      have z3 := B3.size
      clear hC B1 o1 b3 d0 d1 d2
      have bN := allocBelow w3 (.cells #[.string x0, .int .i64 x1, .string x2] 42)
      have o4 := o3.kept (grownOfBelow bN none) (blockCases _ _ fun b c1 c2 => by cases c2)
      have nw : OB (w3.heap.size + 1) (w3.alloc (.cells #[.string x0, .int .i64 x1, .string x2] 42)) (some ⟨w3.heap.size, 0, none⟩) [(x0, x1, x2)] := fun j hj => by
        have hj0 : j = 0 := by simp at hj; omega
        subst hj0
        have r := Rf.new w3 #[.string x0, .int .i64 x1, .string x2] 42
        exact ⟨w3.heap.size, 0, rfl, by omega, r.at_ 0 _ rfl, r.at_ 1 _ rfl, r.at_ 2 _ rfl⟩
      have B4 := B3.trans (bN.mono z3)
      have z4 := B4.size
      clear bN o3 B3
      have hB4 : Hid (Below w.heap.size w (w3.alloc (.cells #[.string x0, .int .i64 x1, .string x2] 42))) := B4
      clear B4
      go_wp2_with (at_builtin; refine stopMark ?_)
      change wpList _ _ _ _ _ _
      refine wpList_appO rfl (.tmp 12) (.tmp 15) rfl w.heap.size _ T rfl o4 (some ⟨w3.heap.size, 0, none⟩) 1 _ [(x0, x1, x2)] rfl nw (fun h => by cases h) (by simp; omega) z4 ?_
      intro v5 w5 o5 g5
      have B5 : Hid (Below w.heap.size w w5) := hB4.out.grown g5 z4 (fun j hj => (o4.lt j hj).1)
      have O5 : Hid (w5.ownsRow w.heap.size 42 3 v5 (l.take (k + 1)).length (ocells (l.take (k + 1)))) := by
        show World.ownsRow _ _ _ _ _ _ _
        rw [E1.out]; exact o5
      clear o4 nw g5 hB4 o5 E1
      go_wp2
      go_roundw
      case rel => exact ⟨k + 1, by omega, by go_num, O5.out, B5.out⟩
      case measure => first | (simp [intOf]; omega) | simp [intOf]
    · have q0 : ¬ (k : Int) < (n : Int) := by omega
      have ek : l.take k = l := List.take_of_length_le (by omega)
      rw [ek] at hor
      have HO : Hid (World.ownsRow _ _ _ _ _ _ _) := hor
      clear hor ek
      go_wp2
      go_ret
      exact ⟨_, rfl, HO.out, hbel⟩
end Go.Proofs.YtkgcpndnlefkoaaGreatDoor.Fl
