/- The contract of spec.l6Untree. No statement is proved here. -/
import Derived.Test.YtijphomojljckaaGreatDoorRows
import Derived.Test.YtijphomojljckaaGreatDoorLemQ
import Derived.Test.YtijphomojljckaaGreatDoorComQ
import Derived.Test.YtijphomojljckaaGreatDoorHkTQ
import Derived.Test.YtijphomojljckaaGreatDoorLFLemQ
import Derived.Test.YtijphomojljckaaGreatDoorIterQ
import Derived.Test.YtijphomojljckaaGreatDoorTeLQ
import Derived.Test.YtijphomojljckaaGreatDoorTrCQ
import Derived.Test.YtijphomojljckaaGreatDoorTrSQ
import Derived.Test.YtijphomojljckaaGreatDoorTrFQ
import Derived.Test.YtijphomojljckaaGreatDoorCutLQ
import Derived.Test.YtijphomojljckaaGreatDoorDtLQ
import Derived.Test.YtijphomojljckaaGreatDoorIxBQ
import Derived.Test.YtijphomojljckaaGreatDoorDtMQ
import Derived.Test.YtijphomojljckaaGreatDoorRtCQ
import Derived.WalkKit
import Derived.ProofKit
import Derived.Below
import Derived.WalkSpells
import Derived.Maps.AppendAt
import Derived.Deep.RegionHeld
namespace Go.Proofs.YtijphomojljckaaGreatDoor.Te
open Go.ChangeShapes Go.WideShapes Go.ChangeAt Go.RowKit

theorem sAll_app : ∀ (xs ys : List (List UInt8)), sAll (xs ++ ys) = match sAll xs with
    | none => none
    | some l => match sAll ys with
      | none => none
      | some m => some (l ++ m)
  | [], ys => by cases h : sAll ys <;> simp [sAll, h]
  | x :: xs, ys => by
    have ih := sAll_app xs ys
    simp only [List.cons_append, sAll]
    cases sEnt x with
    | none => rfl
    | some o =>
      simp only
      rw [ih]
      cases sAll xs with
      | none => rfl
      | some l =>
        simp only
        cases sAll ys with
        | none => rfl
        | some m => rfl
theorem sAll_one (x : List UInt8) : sAll [x] = match sEnt x with
    | none => none
    | some o => some [o] := by
  simp only [sAll]
  cases sEnt x <;> rfl
theorem sAll_bad {xs : List (List UInt8)} {k : Nat} {x : List UInt8} (hx : xs[k]? = some x) (h : sEnt x = none) : sAll xs = none := by
  have hk : k < xs.length := (List.getElem?_eq_some_iff.1 hx).1
  have e : xs = xs.take k ++ (x :: xs.drop (k + 1)) := by
    rw [← (List.getElem?_eq_some_iff.1 hx).2, ← List.drop_eq_getElem_cons hk, List.take_append_drop]
  rw [e, sAll_app]
  have : sAll (x :: xs.drop (k + 1)) = none := by simp only [sAll, h]
  rw [this]
  cases sAll (xs.take k) <;> rfl
theorem sAll_take {xs : List (List UInt8)} {k : Nat} {x : List UInt8} {l : List Ob} {o : Ob} (hx : xs[k]? = some x) (hl : sAll (xs.take k) = some l) (h : sEnt x = some o) : sAll (xs.take (k + 1)) = some (l ++ [o]) := by
  have hk : k < xs.length := (List.getElem?_eq_some_iff.1 hx).1
  rw [List.take_succ_eq_append_getElem hk, (List.getElem?_eq_some_iff.1 hx).2, sAll_app, hl, sAll_one, h]
theorem s_open {x : ByteArray} (h : endB x = false) : sEnt x.data.toList = none := by
  unfold sEnt; rw [if_neg (of_decide_eq_false h)]
theorem trim_end {x : ByteArray} (h : endB x = true) : trimL x.data.toList = x.data.toList.dropLast := by
  unfold trimL; rw [if_pos (of_decide_eq_true h)]
theorem cut_un {x : ByteArray} (h : endB x = true) : cutOf 32 (unT x) = (cutL 32 x.data.toList.dropLast).map mkB := by
  unfold unT cutOf cutFrom
  rw [if_pos h, mkB_data, List.drop_zero, trim_end h]
theorem s_count {x : ByteArray} (h : endB x = true) (n : ¬ (cutOf 32 (unT x)).length = 3) : sEnt x.data.toList = none := by
  rw [cut_un h, List.length_map] at n
  unfold sEnt
  rw [if_pos (of_decide_eq_true h)]
  generalize cutL 32 x.data.toList.dropLast = t at n
  match t, n with
  | [], _ => rfl
  | [_], _ => rfl
  | [_, _], _ => rfl
  | [_, _, _], n => exact absurd rfl n
  | _ :: _ :: _ :: _ :: _, _ => rfl
theorem s_three {x : ByteArray} (h : endB x = true) (n : (cutOf 32 (unT x)).length = 3) : ∃ a b c : ByteArray, cutOf 32 (unT x) = [a, b, c] ∧ sEnt x.data.toList = some (c, md a.data.toList, b) := by
  rw [cut_un h, List.length_map] at n
  rw [cut_un h]
  unfold sEnt
  rw [if_pos (of_decide_eq_true h)]
  generalize cutL 32 x.data.toList.dropLast = t at n
  match t, n with
  | [a, b, c], _ => exact ⟨mkB a, mkB b, mkB c, rfl, rfl⟩
/-- The mode that the words ahead of j give. -/
def mdU (a : ByteArray) (j : Nat) : Int := if a = ⟨#[116, 114, 101, 101]⟩ ∧ 3 < j then 3 else if a = ⟨#[114, 117, 110]⟩ ∧ 2 < j then 2 else if a = ⟨#[102, 105, 108, 101]⟩ ∧ 1 < j then 1 else 0
theorem mdU_one (a : ByteArray) : mdU a 1 = 0 := by simp [mdU]
theorem mdU_four (a : ByteArray) : mdU a 4 = md a.data.toList := by
  unfold mdU
  by_cases h3 : a = ⟨#[116, 114, 101, 101]⟩
  · rw [if_pos ⟨h3, by omega⟩, md_three h3]
  · rw [if_neg (fun q => h3 q.1)]
    by_cases h2 : a = ⟨#[114, 117, 110]⟩
    · rw [if_pos ⟨h2, by omega⟩, md_two h2]
    · rw [if_neg (fun q => h2 q.1)]
      by_cases h1 : a = ⟨#[102, 105, 108, 101]⟩
      · rw [if_pos ⟨h1, by omega⟩, md_one h1]
      · rw [if_neg (fun q => h1 q.1), md_none h1 h2 h3]
theorem mdU_hit1 {a : ByteArray} (h : a = ⟨#[102, 105, 108, 101]⟩) : mdU a 2 = 1 := by subst h; rfl
theorem mdU_hit2 {a : ByteArray} (h : a = ⟨#[114, 117, 110]⟩) : mdU a 3 = 2 := by subst h; rfl
theorem mdU_hit3 {a : ByteArray} (h : a = ⟨#[116, 114, 101, 101]⟩) : mdU a 4 = 3 := by subst h; rfl
theorem mdU_miss1 {a : ByteArray} (h : ¬ a = ⟨#[102, 105, 108, 101]⟩) : mdU a 2 = mdU a 1 := by simp [mdU, h]
theorem mdU_miss2 {a : ByteArray} (h : ¬ a = ⟨#[114, 117, 110]⟩) : mdU a 3 = mdU a 2 := by simp [mdU, h]
theorem mdU_miss3 {a : ByteArray} (h : ¬ a = ⟨#[116, 114, 101, 101]⟩) : mdU a 4 = mdU a 3 := by simp [mdU, h]
/-- The word of a mode. -/
def wdB (j : Nat) : ByteArray := if j = 1 then ⟨#[102, 105, 108, 101]⟩ else if j = 2 then ⟨#[114, 117, 110]⟩ else ⟨#[116, 114, 101, 101]⟩
theorem l6WordsJ (j : Nat) (h1 : 1 ≤ j) (h2 : j < 4) (w : World) : Calls Tryz.prog 53 #[] w.drew fun e w' => e = .returned (.slice (some ⟨w.heap.size, 0, none⟩) 4 4) ∧ Below w.heap.size w w' ∧ w'.cell? ⟨w.heap.size, j, none⟩ = some (.string (wdB j)) := by
  refine (l6WordsD w).mono ?_
  rintro e w1 ⟨rfl, b, k1, k2, k3⟩
  obtain rfl | rfl | rfl : j = 1 ∨ j = 2 ∨ j = 3 := by omega
  · exact ⟨rfl, b, k1⟩
  · exact ⟨rfl, b, k2⟩
  · exact ⟨rfl, b, k3⟩
theorem mdU_step (a : ByteArray) {j : Nat} (h1 : 1 ≤ j) (h2 : j < 4) {b : Bool} (h : ((wdB j).toList == a.toList) = b) : mdU a (j + 1) = if b = true then (j : Int) else mdU a j := by
  by_cases e : a = wdB j
  · subst e
    have hb : b = true := by rw [← h]; exact beq_bytes_true rfl
    rw [if_pos hb]
    obtain rfl | rfl | rfl : j = 1 ∨ j = 2 ∨ j = 3 := by omega
    · exact mdU_hit1 rfl
    · exact mdU_hit2 rfl
    · exact mdU_hit3 rfl
  · have hb : b = false := by
      rw [← h, ByteArray.toList_eq]
      exact ne_sym (l := (wdB j).data.toList) (fun q => e (by rw [q]))
    rw [hb, if_neg (by decide)]
    obtain rfl | rfl | rfl : j = 1 ∨ j = 2 ∨ j = 3 := by omega
    · exact mdU_miss1 e
    · exact mdU_miss2 e
    · exact mdU_miss3 e

theorem SS.keptBy {w w' : World} {a : Option Addr} {ss : List ByteArray} {row : Option Nat} (h : SS w a ss) (hg : w.grownBy w' row) (hne : ∀ g off, a = some ⟨g, off, none⟩ → row ≠ some g) : SS w' a ss :=
  ⟨h.1, fun k hk => by
    obtain ⟨b, off, e, hb, hc⟩ := h.2 k hk
    refine ⟨b, off, e, Nat.lt_of_lt_of_le hb hg.size, ?_⟩
    have := hg.block b hb (fun q => hne b off e q.symm)
    unfold World.cell? at hc ⊢
    rw [this]; exact hc⟩
theorem line_size (s : ByteArray) (k : Nat) (hk : k < (linesOf s).length) : ((linesOf s).getD k ByteArray.empty).size ≤ s.size := by
  have hk' : k < (spl s.data.toList).length := by simpa [linesOf, linesFrom] using hk
  have e : (linesOf s).getD k ByteArray.empty = mkB ((spl s.data.toList)[k]) := by simp [linesOf, linesFrom, List.getD, hk']
  rw [e, mkB_size, ← size_eq]
  have h := (List.sublist_flatten_of_mem (List.getElem_mem hk')).length_le
  rw [spl_join] at h
  exact h
theorem unT_size (x : ByteArray) : (unT x).size ≤ x.size := by
  unfold unT
  split
  · exact trim_size x
  · exact Nat.zero_le _
/-- How l6Untree ends. -/
def UT (s : ByteArray) (w : World) (e : Ending) (w' : World) : Prop := Below w.heap.size w w' ∧
  ((dtS s = true ∧ ∃ v, e = .returned (.tuple #[v, .bool true]) ∧ w'.ownsRow w.heap.size 72 3 v (dtP s).length (ocells (dtP s))) ∨ (dtS s = false ∧ ∃ v, e = .returned (.tuple #[v, .bool false])))
set_option maxRecDepth 20000 in
set_option maxHeartbeats 8000000 in
theorem l6UntreeC (s : ByteArray) (w : World) (hs : s.size ≤ 1048576) :
    Calls Tryz.prog 24 #[.string s] w fun e w' => UT s w e w' := by
  have hSp := fun w => l1Split s w hs
  have hsm := lines_small s hs
  have hll := lines_le s
  have hls := fun k hk => Nat.le_trans (line_size s k hk) hs
  obtain ⟨i0, hi, hz0, hz1, hz2⟩ := info_parts infoObj
  have hxT : ∀ k, k < (linesOf s).length → (spl s.data.toList)[k]? = some ((linesOf s).getD k ByteArray.empty).data.toList := fun k hk => by
    have hk' : k < (spl s.data.toList).length := by simpa [linesOf, linesFrom] using hk
    have e : (linesOf s).getD k ByteArray.empty = mkB ((spl s.data.toList)[k]) := by
      simp [linesOf, linesFrom, List.getD, hk']
    rw [e, mkB_data, List.getElem?_eq_getElem hk']
  have hxl : (spl s.data.toList).length = (linesOf s).length := by simp [linesOf, linesFrom]
  obtain ⟨xs, hxs⟩ : ∃ xs, spl s.data.toList = xs := ⟨_, rfl⟩
  have hbad : ∀ k, k < (linesOf s).length → sEnt ((linesOf s).getD k ByteArray.empty).data.toList = none → Hid (dtS s = false) := fun k hk h => dtS_none (sAll_bad (hxT k hk) h)
  have hgood : ∀ k l o, k < (linesOf s).length → sAll (xs.take k) = some l → sEnt ((linesOf s).getD k ByteArray.empty).data.toList = some o → Hid (sAll (xs.take (k + 1)) = some (l ++ [o])) := fun k l o hk hl h => sAll_take (by rw [← hxs]; exact hxT k hk) hl h
  have hend : ∀ l, sAll (xs.take (linesOf s).length) = some l → dtP s = l ∧ dtS s = decide (tfl l = 0) := fun l h => by
    have h' : sAll (spl s.data.toList) = some l := by rw [hxs, ← h, ← hxl, hxs, List.take_length]
    exact ⟨(all_p h').1, dtS_some h'⟩
  clear hxT hxs
  obtain ⟨W0, hW0⟩ : ∃ W, w.alloc (.cells #[] 72) = W := ⟨_, rfl⟩
  have b0 : Below w.heap.size w W0 := by rw [← hW0]; exact allocBelow _ _
  have z0 : W0.heap.size = w.heap.size + 1 := by rw [← hW0]; simp
  have own0 : W0.ownsRow w.heap.size 72 3 (.slice (some ⟨w.heap.size, 0, none⟩) 0 0) ([] : List Ob).length (ocells []) := by rw [← hW0]; exact World.ownsRow_lit w #[] 0 (Nat.le_refl _) (Nat.zero_le _) rfl
  obtain ⟨T, hT⟩ : ∃ T, linesOf s = T := ⟨_, rfl⟩
  rw [hT] at hsm hll hend
  simp only [hT] at hSp hbad hgood hls
  clear hT hxl
  have HZ : Hid (W0.heap.size = w.heap.size + 1) := z0
  clear z0
  go_enter Tryz.func24, Tryz.ntmps24
  go_wp2_with fail
  refine (hSp _).mono ?_
  rintro e w1 ⟨vT, rfl, oT, b1⟩
  have hgT : ∀ g, vT.ownBlock = some g → W0.heap.size ≤ g := fun g hg => (oT.lt g hg).1
  obtain ⟨aT, cT, rfl, sT, -⟩ := SS_of_row oT rfl hsm
  have B1 : Below w.heap.size w w1 := b0.trans (b1.mono (by have := HZ.out; omega))
  have own1 : w1.ownsRow w.heap.size 72 3 (.slice (some ⟨w.heap.size, 0, none⟩) 0 0) ([] : List Ob).length (ocells []) := own0.kept (grown_of_below b1 none) (.inr (by simp [Value.ownBlock]))
  have hne1 : ∀ g off, aT = some ⟨g, off, none⟩ → (Value.slice (some ⟨w.heap.size, 0, none⟩) 0 0).ownBlock ≠ some g := fun g off e q => by
    subst e
    have h1 := hgT g rfl
    have h2 : w.heap.size = g := by simpa [Value.ownBlock] using q
    have := HZ.out
    omega
  clear hSp own0 b0 b1 hW0 oT hgT
  go_wp2
  go_loopw [4, 6, 7, 8, 9, 10, 11] (fun v i _a _b _c _d _e wr => ∃ (k : Nat) (L : List Ob), k ≤ T.length ∧ i = .int .i64 k ∧ Hid (sAll (xs.take k) = some L) ∧ Hid (L.length = k) ∧ wr.ownsRow w.heap.size 72 3 v L.length (ocells L) ∧ Below w.heap.size w wr ∧ SS wr aT T ∧ ∀ g off, aT = some ⟨g, off, none⟩ → v.ownBlock ≠ some g) (fun _ i _ _ _ _ _ _ => T.length - (intOf i).toNat)
  case atStart => exact ⟨0, [], Nat.zero_le _, rfl, rfl, rfl, own1, B1, sT, hne1⟩
  case round =>
    obtain ⟨k, L, hk, rfl, hA, hL, hown, hbel, hS, hne⟩ := hrel
    clear own1 hne1 sT B1
    by_cases hlt : k < T.length
    · have qk : (k : Int) < (T.length : Int) := by omega
      obtain ⟨g, off, e, hg, d0⟩ := hS.2 k hlt
      have hb := hbad k hlt
      have hgd := fun o => hgood k L o hlt hA.out
      have hxz := hls k hlt
      clear hbad hgood hend hls hsm
      obtain ⟨x, hx⟩ : ∃ x, T.getD k ByteArray.empty = x := ⟨_, rfl⟩
      rw [hx] at d0 hb hxz
      simp only [hx] at hgd
      have hU := fun w => l6UnlineC x w hxz
      have hC := fun w => l6SplitC (unT x) w (Nat.le_trans (unT_size x) hxz)
      have hPs := cut_smallB 32 (unT x) (Nat.le_trans (unT_size x) hxz)
      have hOpen := s_open (x := x)
      have hCount := s_count (x := x)
      have hThree := s_three (x := x)
      obtain ⟨P, hP⟩ : ∃ P, cutOf 32 (unT x) = P := ⟨_, rfl⟩
      rw [hP] at hPs hCount hThree
      simp only [hP] at hC
      obtain ⟨Y, hY⟩ : ∃ Y, unT x = Y := ⟨_, rfl⟩
      rw [hY] at hU hC
      obtain ⟨E, hE⟩ : ∃ E, endB x = E := ⟨_, rfl⟩
      rw [hE] at hU hOpen hCount hThree
      clear hP hY hE hx
      subst e
      go_wp2_with fail
      refine (hU _).mono ?_; rintro e w2' ⟨rfl, rfl⟩
      clear hU
      go_wp2_with fail
      refine (hC _).mono ?_; rintro e w2 ⟨vP, rfl, oP, b2⟩
      obtain ⟨aP, cP, rfl, sP, -⟩ := SS_of_row oP rfl hPs
      have B2 : Below w.heap.size w w2 := hbel.trans (b2.mono hbel.size)
      have own2 := hown.kept (grown_of_below b2 none) (by cases hv : u4.ownBlock <;> simp)
      have sT2 := hS.below b2
      have z2 := b2.size
      clear hC oP hown hbel hS b2 d0 hg
      by_cases hEt : E = true
      rotate_left
      · have hEf : E = false := by simpa using hEt
        have HD := hb (hOpen hEf)
        clear hb hgd hOpen hCount hThree hEt sP own2 sT2
        subst hEf
        go_wp2
        go_ret2
        exact ⟨B2, .inr ⟨HD.out, _, rfl⟩⟩
      subst hEt
      replace hCount := hCount rfl
      replace hThree := hThree rfl
      clear hOpen
      by_cases hP3 : P.length = 3
      rotate_left
      · have HD := hb (hCount hP3)
        have q3 : ((P.length : Int) != 3) = true := by simp; omega
        clear hb hgd hCount hThree sP own2 sT2
        go_wp2
        go_ret2
        exact ⟨B2, .inr ⟨HD.out, _, rfl⟩⟩
      obtain ⟨a0, b0, c0, rfl, hEnt⟩ := hThree hP3
      have HG := hgd _ hEnt
      clear hb hgd hCount hThree hP3 hEnt
      obtain ⟨gw, ow, ew, hgw, cw0⟩ := sP.2 0 (by simp)
      obtain ⟨g1, o1, e1, hg1, cw1⟩ := sP.2 1 (by simp)
      obtain ⟨g2, o2, e2, hg2, cw2⟩ := sP.2 2 (by simp)
      rw [ew] at e1 e2
      simp only [Option.some.injEq, Addr.mk.injEq, and_true] at e1 e2
      obtain ⟨rfl, rfl⟩ := e1
      obtain ⟨rfl, rfl⟩ := e2
      simp only [List.getD, List.getElem?_cons_zero, List.getElem?_cons_succ, Option.getD_some] at cw0 cw1 cw2
      rw [Nat.add_zero] at cw0
      subst ew
      obtain ⟨W3, hW3⟩ : ∃ W, w2.alloc (.cells #[.string c0, .int .i64 0, .string b0] 72) = W := ⟨_, rfl⟩
      have b3 : Below w2.heap.size w2 W3 := by rw [← hW3]; exact allocBelow _ _
      have z3 : w2.heap.size < W3.heap.size := by rw [← hW3]; simp
      have r3 : Rf W3 w2.heap.size [.string c0, .int .i64 0, .string b0] := by rw [← hW3]; exact Rf.new _ _ _
      go_wp2
      go_region
      go_wp2
      have hgw0 : gw < w2.heap.size := hgw
      have b3d := below_drew b3
      have r3d : Rf W3.drew w2.heap.size [.string c0, .int .i64 (mdU a0 1), .string b0] := by rw [mdU_one]; exact ⟨r3.at_, r3.fz⟩
      have z3d : w2.heap.size < W3.drew.heap.size := z3
      clear hW3 b3 r3 hgw cw1 cw2 hg1 hg2 sP
      go_loopw [11] (fun i wr => ∃ j : Nat, (1 ≤ j ∧ j ≤ 4) ∧ i = .int .i64 j ∧ Rf wr w2.heap.size [.string c0, .int .i64 (mdU a0 j), .string b0] ∧ Below w2.heap.size w2 wr ∧ w2.heap.size < wr.heap.size) (fun i _ => 4 - (intOf i).toNat)
      case atStart => exact ⟨1, ⟨by omega, by omega⟩, rfl, r3d, b3d, z3d⟩
      case round =>
        obtain ⟨j, hj, rfl, hR, hbi, hzi⟩ := hrel
        clear r3d b3d z3d
        rcases Nat.lt_or_ge j 4 with hj4 | hj4
        · -- a word
          have cw : wr.cell? ⟨gw, ow, none⟩ = some (.string a0) := (hbi.cell (p := ⟨gw, ow, none⟩) hgw0).trans cw0
          have hgw : gw < wr.heap.size := by omega
          have hWj := l6WordsJ j hj.1 hj4 wr
          obtain ⟨B, qa⟩ : ∃ B, ((wdB j).toList == a0.toList) = B := ⟨_, rfl⟩
          have hM : Hid (mdU a0 (j + 1) = if B = true then (j : Int) else mdU a0 j) := mdU_step a0 hj.1 hj4 qa
          obtain ⟨x0, hx0⟩ : ∃ x0, wdB j = x0 := ⟨_, rfl⟩
          rw [hx0] at qa hWj
          clear hx0
          have qj : (j : Int) < 4 := by omega
          go_wp2
          refine wp_region_held_drew (S := fun u => u.cell? ⟨gw, ow, none⟩ = some (.string a0)) (by kernel_rfl) cw (fun hHeld => ?_)
          refine takeD (i := 1) (d := 50) (oi := _) (v := ?_) (listed' := #[false, true, false, false, false, false, false, false]) rfl (by kernel_rfl) (by kernel_rfl) (by kernel_rfl) (fun _ _ _ h => h) (Or.inl ⟨by rfl, ?_⟩) hHeld (by kernel_rfl) (by kernel_rfl) ?_
          rotate_left
          · intro w hSw
            try dsimp only at hSw
            first
              | (go_simp; done)
              | (go_simp; with_reducible rfl)
          simp only [Act.put, List.setIfInBounds_toArray, List.set_cons_zero, List.set_cons_succ]
          refine takeD (i := 4) (d := 53) (oi := _) (v := ?_) (listed' := #[false, true, false, false, true, false, false, false]) rfl (by kernel_rfl) (by kernel_rfl) (by kernel_rfl) (fun _ _ _ h => h) (Or.inl ⟨by rfl, ?_⟩) hHeld (by kernel_rfl) (by kernel_rfl) ?_
          rotate_left
          · intro w hSw
            try dsimp only at hSw
            first
              | (go_simp; done)
              | (go_simp; with_reducible rfl)
          simp only [Act.put, List.setIfInBounds_toArray, List.set_cons_zero, List.set_cons_succ]
          refine takeD (i := 5) (d := 54) (oi := _) (v := ?_) (listed' := #[false, true, false, false, true, true, false, false]) rfl (by kernel_rfl) (by kernel_rfl) (by kernel_rfl) (fun _ _ _ h => h) (Or.inl ⟨by rfl, ?_⟩) hHeld (by kernel_rfl) (by kernel_rfl) ?_
          rotate_left
          · intro w hSw
            try dsimp only at hSw
            first
              | (go_simp; done)
              | (go_simp; with_reducible rfl)
          simp only [Act.put, List.setIfInBounds_toArray, List.set_cons_zero, List.set_cons_succ]
          refine takeD (i := 6) (d := 55) (oi := _) (v := ?_) (listed' := #[false, true, false, false, true, true, true, false]) rfl (by kernel_rfl) (by kernel_rfl) (by kernel_rfl) (fun _ _ _ h => h) (Or.inl ⟨by rfl, ?_⟩) hHeld (by kernel_rfl) (by kernel_rfl) ?_
          rotate_left
          · intro w hSw
            try dsimp only at hSw
            first
              | (go_simp; done)
              | (go_simp; with_reducible rfl)
          simp only [Act.put, List.setIfInBounds_toArray, List.set_cons_zero, List.set_cons_succ]
          refine wpAnyH_ready (rs := [0]) (by kernel_rfl) (by simp) ?_
          refine AllReadyH.cons (o := _) rfl (fun K hK => ?_) AllReadyH.nil
          go_simp
          refine hWj.mono ?_
          rintro e u1 ⟨rfl, kb1, kc1⟩
          have R1 := hR.below hzi kb1
          have rc1 := R1.at_ 1 _ rfl
          have rf1 := R1.fz 1
          have zu := kb1.size
          have Bu : Below w2.heap.size w2 u1 := hbi.trans (kb1.mono (Nat.le_of_lt hzi))
          refine hK.out _ _ (keep3 kb1 hgw cw) (fun hS1 => ?_)
          refine moreS (S' := fun u => u.cell? ⟨wr.heap.size, j, none⟩ = some (.string x0) ∧ u.cell? ⟨gw, ow, none⟩ = some (.string a0)) (fun _ h => h.2) _ _ _ _ ?_
          simp only [List.setIfInBounds_toArray, List.set_cons_zero]
          refine takeD (i := 2) (d := 51) (oi := _) (v := ?_) (listed' := #[true, true, true, false, true, true, true, false]) rfl (by kernel_rfl) (by kernel_rfl) (by kernel_rfl) (fun _ _ _ h => h) (Or.inl ⟨by rfl, ?_⟩) ⟨kc1, hS1⟩ (by kernel_rfl) (by kernel_rfl) ?_
          rotate_left
          · intro w hSw
            try dsimp only at hSw
            first
              | (go_simp; done)
              | (go_simp; with_reducible rfl)
          simp only [Act.put, List.setIfInBounds_toArray, List.set_cons_zero, List.set_cons_succ]
          refine takeD (i := 3) (d := 52) (oi := _) (v := ?_) (listed' := #[true, true, true, true, true, true, true, false]) rfl (by kernel_rfl) (by kernel_rfl) (by kernel_rfl) (fun _ _ _ h => h) (Or.inl ⟨by rfl, ?_⟩) ⟨kc1, hS1⟩ (by kernel_rfl) (by kernel_rfl) ?_
          rotate_left
          · intro w hSw
            try dsimp only at hSw
            first
              | (go_simp; done)
              | (go_simp; with_reducible rfl)
          simp only [Act.put, List.setIfInBounds_toArray, List.set_cons_zero, List.set_cons_succ]
          refine takeD (i := 7) (d := 56) (oi := _) (v := ?_) (listed' := #[true, true, true, true, true, true, true, true]) rfl (by kernel_rfl) (by kernel_rfl) (by kernel_rfl) (fun _ _ _ h => h) (Or.inl ⟨by rfl, ?_⟩) ⟨kc1, hS1⟩ (by kernel_rfl) (by kernel_rfl) ?_
          rotate_left
          · intro w hSw
            try dsimp only at hSw
            first
              | (go_simp; done)
              | (go_simp; with_reducible rfl)
          simp only [Act.put, List.setIfInBounds_toArray, List.set_cons_zero, List.set_cons_succ]
          refine wpAnyH_done (by kernel_rfl) ?_ _
          cases B
          · go_wp2
            go_roundw
            case rel => exact ⟨j + 1, by omega, by first | rfl | go_num, by rw [hM.out]; exact R1, Bu, by omega⟩
            case measure => simp [intOf]; omega
          · go_wp2
            go_roundw
            case rel =>
              refine ⟨j + 1, by omega, by first | rfl | go_num, ?_, Bu.setCell (p := ⟨w2.heap.size, 1, none⟩) (Nat.le_refl _) _, by simp; omega⟩
              rw [hM.out]
              exact R1.set (o := 1) (by simp) _
            case measure => simp [intOf]; omega
        obtain rfl : j = 4 := by omega
        · -- behind the words
          have M4 := mdU_four a0
          rw [M4] at hR
          have e0 := hR.at_ 0 _ rfl
          have e1 := hR.at_ 1 _ rfl
          have e2 := hR.at_ 2 _ rfl
          have hL' := hL.out
          have own3 := own2.kept (grown_of_below hbi none) (by cases hv : u4.ownBlock <;> simp)
          have sT3 := sT2.below hbi
          have B3 : Below w.heap.size w wr := B2.trans (hbi.mono B2.size)
          have hz3 := B3.size
          clear hR hL own2 sT2 B2 M4
          obtain ⟨MD, hMD⟩ : ∃ m, md a0.data.toList = m := ⟨_, rfl⟩
          rw [hMD] at e1 HG
          clear hMD cw0
          go_wp2_with (at_builtin; refine wpList_append_own_at _ rfl (.tmp 59) (.tmp 61) 25 rfl w.heap.size 72 i0 (.agg #[.string ⟨#[]⟩, .int .i64 0, .string ⟨#[]⟩]) 3 40 Tryz.underlying25 hi hz0 hz1 hz2 rfl (by decide) u4 _ _ rfl (own3.alloc _) ⟨wr.heap.size, 0, none⟩ 1 1 [.string c0, .int .i64 MD, .string b0] rfl rfl (three_new _ _ _ _ _) (by simp [Value.oneCell']) (by unfold maxLen; omega) (by omega) (by simp; omega) ?_; intro v' w4 hown' hgrow _ hwhere)
          have hgT : g < wr.heap.size := by
            obtain ⟨b, off', e, hb, _⟩ := sT3.2 k hlt
            simp only [Option.some.injEq, Addr.mk.injEq, and_true] at e
            omega
          refine ⟨⟨k + 1, L ++ [(c0, MD, b0)], by omega, by go_num, HG, by show _ = _; simp [hL'], by rw [ocells_snoc, List.length_append]; exact hown', (B3.alloc hz3 _).grown hgrow (by simp; omega) (fun j hj => (own3.lt j hj).1), SS.keptBy (sT3.below (allocBelow wr _)) hgrow (fun g' off' e q => hne g' off' e q), fun g' off' e q => ?_⟩, by simp [intOf]; omega⟩
          rcases hwhere with h1 | h1
          · exact hne g' off' e (h1 ▸ q)
          · rw [h1] at q
            simp only [Option.some.injEq, Addr.mk.injEq, and_true, World.size_alloc] at e q
            omega
    · have ek : k = T.length := by omega
      have qk : ¬ (k : Int) < (T.length : Int) := by omega
      obtain ⟨e1, e2⟩ := hend L (by rw [← ek]; exact hA.out)
      obtain ⟨la, lc, hla⟩ : ∃ a c, u4 = .slice a L.length c := by
        rcases hown.2 with ⟨h', h0'⟩ | ⟨g, c, cur, h', _⟩
        · exact ⟨none, 0, by rw [h', h0']⟩
        · exact ⟨_, _, h'⟩
      have hL' := hL.out
      have hF := specTreeFault la lc L wr (OB.of (by rw [← hla]; exact hown)) (by omega)
      have HT : tfl L = 0 → Hid (dtS s = true) := fun h => by show _ = _; rw [e2, decide_eq_true h]
      have HF : ¬ tfl L = 0 → Hid (dtS s = false) := fun h => by show _ = _; rw [e2, decide_eq_false h]
      have HP : Hid (dtP s = L) := e1
      obtain ⟨t, ht⟩ : ∃ t, tfl L = t := ⟨_, rfl⟩
      rw [ht] at hF HT HF
      subst hla
      clear hA e1 e2 hbad hgood hend hls hsm ht hne hS hL ek hL'
      go_wp2_with fail
      refine hF.mono ?_; rintro e w2 ⟨rfl, b2⟩
      have own2 := hown.kept (grown_of_below b2 none) (by cases la <;> simp [Value.ownBlock])
      have B2 : Below w.heap.size w w2 := hbel.trans (b2.mono hbel.size)
      clear hF hown hbel b2
      by_cases h0 : t = 0
      · have HD := HT h0
        subst h0
        clear HT HF
        go_wp2
        go_ret2
        exact ⟨B2, .inl ⟨HD.out, _, rfl, by rw [HP.out]; exact own2⟩⟩
      · have HD := HF h0
        have q0 : (t == 0) = false := by simpa using h0
        clear HT HF h0
        go_wp2
        go_ret2
        exact ⟨B2, .inr ⟨HD.out, _, rfl⟩⟩
end Go.Proofs.YtijphomojljckaaGreatDoor.Te
