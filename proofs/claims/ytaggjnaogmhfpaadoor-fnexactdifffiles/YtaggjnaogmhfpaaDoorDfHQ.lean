/- slices.Sort, slices.Compact at rows of texts of their own; the contract of pathsOf. No statement is proved here. -/
import Derived.Test.YtaggjnaogmhfpaaDoorRows
import Derived.Test.YtaggjnaogmhfpaaDoorLemQ
import Derived.Test.YtaggjnaogmhfpaaDoorDTabQ
import Derived.Test.YtaggjnaogmhfpaaDoorHkTQ
import Derived.Test.YtaggjnaogmhfpaaDoorLFLemQ
import Derived.Test.YtaggjnaogmhfpaaDoorFlLQ
import Derived.Test.YtaggjnaogmhfpaaDoorFlAQ
import Derived.Test.YtaggjnaogmhfpaaDoorDfMQ
import Derived.Test.YtaggjnaogmhfpaaDoorDfBQ
import Derived.Test.YtaggjnaogmhfpaaDoorDfQQ
import Derived.Test.YtaggjnaogmhfpaaDoorDfGQ
import Derived.Test.YtaggjnaogmhfpaaDoorShelfZQ
import Derived.Sort.OwnSorted
import Derived.WalkKit
import Derived.ProofKit
import Derived.Below
import Derived.WalkSpells
import Derived.Deep.QuietTactic
import Derived.BigQuiet
import Derived.Deep.RegionWith
import Derived.Deep.RegionHeld
import Derived.Deep.RegionLaw
import Derived.Deep.CutRange
import Derived.Maps.AppendAt
import Derived.Laws.BitsLemmas
import Derived.Laws.Cover1
set_option linter.unusedVariables false
namespace Go.Proofs.YtaggjnaogmhfpaaDoor.Fl
open Go.ChangeShapes Go.WideShapes Go.ChangeAt Go.RowKit
open Go.Sort
theorem enc_data (P : List ByteArray) : (P.map (·.data.toList)).map encStr = P.map Value.string := by
  rw [List.map_map]
  apply List.map_congr_left
  intro x _
  cases x; rfl
theorem enc_mk (L : List (List UInt8)) : L.map encStr = (L.map mkB).map Value.string := by
  rw [List.map_map]
  rfl
theorem srt_len (L : List (List UInt8)) : (srtL L).length = L.length := List.length_mergeSort _
/-- A row of texts of the call's own, sorted. -/
theorem sortOwnC (base : Nat) (v : Value) (P : List ByteArray) (w : World) (h : w.ownsRow base 9 1 v P.length (P.map Value.string)) (hn : P.length ≤ 1000000) :
    Calls Tryd.prog 48 #[v] w fun e w' => e = .returned (.tuple #[]) ∧ w'.ownsRow base 9 1 v P.length ((srtL (P.map (·.data.toList))).map encStr) ∧ w.grownBy w' v.ownBlock := by
  rcases h.2 with ⟨rfl, h0⟩ | ⟨g, cap, cur, rfl, hb, hg, hn1, hcm, hcs, ht⟩
  · have e : P = [] := List.length_eq_zero_iff.1 h0
    subst e
    refine (Tryd.slices_Sort_string_none none 0 w).mono ?_
    rintro e w' ⟨rfl, rfl⟩
    exact ⟨rfl, ⟨by simp [srtL], .inl ⟨rfl, rfl⟩⟩, World.grownBy.refl _ _⟩
  · have el : (P.map (·.data.toList)).length = P.length := List.length_map _
    rw [Nat.mul_one] at ht
    have hH := holds_of_block (ss := P.map (·.data.toList)) hg (by rw [el, enc_data]; exact ht)
    have hS := Tryd.slices_Sort_string g 0 cap (P.map (·.data.toList)) w hH (Array.getElem?_eq_some_iff.1 hg).1 (by rw [el]; omega)
    rw [el] at hS
    refine hS.mono ?_
    rintro e w' ⟨rfl, n, os, rfl⟩
    refine ⟨rfl, ?_, grownBy_sorted _⟩
    have k := ownsRow_sorted (n := n) (os := os) (ss := P.map (·.data.toList)) (ts := srtL (P.map (·.data.toList))) (srt_len _) hb hg (by rw [el]; exact hn1) hcm hcs
    rw [el] at k
    exact k
theorem ownCut {w : World} {base g n m cap : Nat} {e : TypeId} {xs : List Value} (h : w.ownsRow base e 1 (.slice (some ⟨g, 0, none⟩) n cap) n xs) (hm : m ≤ n) : w.ownsRow base e 1 (.slice (some ⟨g, 0, none⟩) m cap) m (xs.take m) := by
  have hl := h.1
  refine ⟨by rw [List.length_take]; omega, ?_⟩
  rcases h.2 with ⟨h0, _⟩ | ⟨g1, cap1, cur, e1, hb, hg, hn1, hcm, hcs, ht⟩
  · cases h0
  · cases e1
    refine .inr ⟨g, cap, cur, rfl, hb, hg, by omega, hcm, hcs, ?_⟩
    rw [← ht, Nat.mul_one, Nat.mul_one, List.take_take, Nat.min_eq_left hm]
theorem grow_none (w : World) : grow w #[] = w := by
  cases w
  simp [grow]
/-- A row of texts of the call's own, without runs. -/
theorem compactOwnC (base : Nat) (v : Value) (L : List (List UInt8)) (w : World) (h : w.ownsRow base 9 1 v L.length (L.map encStr)) (hn : L.length ≤ 1000000) :
    Calls Tryd.prog 49 #[v] w fun e w' => ∃ a c, e = .returned (.slice a (Lib.compact L).length c) ∧ w'.ownsRow base 9 1 (.slice a (Lib.compact L).length c) (Lib.compact L).length ((Lib.compact L).map encStr) ∧ w.grownBy w' v.ownBlock := by
  rcases h.2 with ⟨rfl, h0⟩ | ⟨g, cap, cur, rfl, hb, hg, hn1, hcm, hcs, ht⟩
  · have e : L = [] := List.length_eq_zero_iff.1 h0
    subst e
    refine (Tryd.slices_Compact_string_empty none 0 w).mono ?_
    rintro e w' ⟨rfl, rfl⟩
    exact ⟨none, 0, rfl, ⟨rfl, .inl ⟨rfl, rfl⟩⟩, World.grownBy.refl _ _⟩
  · rw [Nat.mul_one] at ht
    have hH := holds_of_block (ss := L) hg ht
    refine (Tryd.slices_Compact_string g 0 cap L w hH (by omega) hn1).mono ?_
    rintro e w' ⟨rfl, q, rfl⟩
    have hc := Lib.compact_length_le L
    have k := ownsRow_sorted (n := q) (os := #[]) (ss := L) (ts := Lib.compact L ++ List.replicate (L.length - (Lib.compact L).length) []) (by rw [List.length_append, List.length_replicate]; omega) hb hg hn1 hcm hcs
    have kg := grownBy_sorted (w := w) (g := g) (n := q) (os := #[]) (Lib.compact L ++ List.replicate (L.length - (Lib.compact L).length) []).toArray
    rw [grow_none] at k kg
    refine ⟨some ⟨g, 0, none⟩, cap, rfl, ?_, kg⟩
    have k2 := ownCut k hc
    have et : List.take (Lib.compact L).length ((Lib.compact L ++ List.replicate (L.length - (Lib.compact L).length) []).map encStr) = (Lib.compact L).map encStr := by
      rw [List.map_append, List.take_left' (List.length_map _)]
    rw [et] at k2
    exact k2
/-- Paths in memory of their own, or none. -/
def QV (Q : List ByteArray) (w : World) (e : Ending) (w' : World) : Prop := ∃ a c, e = .returned (.slice a Q.length c) ∧ w'.ownsRow w.heap.size 9 1 (.slice a Q.length c) Q.length (Q.map Value.string) ∧ Below w.heap.size w w'
theorem qv_of {P : List ByteArray} {w wA wB wC : World} {B : Nat} {v : Value} {a : Option Addr} {c : Nat} (hB : w.heap.size ≤ B) (hv : ∀ j, v.ownBlock = some j → B ≤ j) (b : Below w.heap.size w wA) (g1 : wA.grownBy wB v.ownBlock) (g2 : wB.grownBy wC v.ownBlock)
    (ho : wC.ownsRow B 9 1 (.slice a (Lib.compact (srtL (P.map (·.data.toList)))).length c) (Lib.compact (srtL (P.map (·.data.toList)))).length ((Lib.compact (srtL (P.map (·.data.toList)))).map encStr)) : QV (ps P) w (.returned (.slice a (Lib.compact (srtL (P.map (·.data.toList)))).length c)) wC := by
  have el : (ps P).length = (Lib.compact (srtL (P.map (·.data.toList)))).length := List.length_map _
  refine ⟨a, c, by rw [el], ?_, (b.grown g1 b.size (fun j hj => Nat.le_trans hB (hv j hj))).grown g2 (Nat.le_trans b.size g1.size) (fun j hj => Nat.le_trans hB (hv j hj))⟩
  rw [el]
  rw [enc_mk] at ho
  exact ownMonoF ho hB
set_option maxRecDepth 20000 in
set_option maxHeartbeats 8000000 in
theorem pathsOfC (gB cc : Nat) (LS : List Li) (w : World) (hl : LS.length ≤ 1000) (hc : ∀ k, k < LS.length → w.cell? ⟨gB, k, none⟩ = some (lv (LS.getD k lnil))) (hg : gB < w.heap.size) (ho : ∀ k, k < LS.length → OB w.heap.size w (LS.getD k lnil).1 (LS.getD k lnil).2.2) (hz : ∀ k, k < LS.length → (LS.getD k lnil).1 = none → (LS.getD k lnil).2.1 = 0) (hn : (allOf LS).length ≤ 1000000) :
    Calls Tryd.prog 29 #[.slice (some ⟨gB, 0, none⟩) LS.length cc] w fun e w' => QV (ps ((allOf LS).map (·.1))) w e w' := by
  obtain ⟨i0, hi, hz0, hz1, hz2⟩ := info_parts infoString
  have hCo := concatC gB cc LS w hl hc hg ho hz hn
  unfold FO at hCo
  obtain ⟨L, hL⟩ : ∃ L, allOf LS = L := ⟨_, rfl⟩
  simp only [hL] at hCo hn ⊢
  clear hL hc hg ho hz hl
  go_enter Tryd.func29, Tryd.ntmps29
  go_wp2_with fail
  refine hCo.mono ?_; rintro e w1 ⟨v1, rfl, o1, b1⟩
  obtain ⟨a1, c1, rfl⟩ := shapeK3 o1
  have OL : OB w1.heap.size w1 a1 L := OB.of o1
  have lt1 := fun j h => (o1.lt j h).2
  have za1 : ∀ k, k < L.length → ∃ g, a1 = some ⟨g, 0, none⟩ := fun k hk => by
    rcases o1.2 with ⟨_, h0⟩ | ⟨g, cap, cur, e, _⟩
    · omega
    · cases e; exact ⟨g, rfl⟩
  obtain ⟨n, hnn⟩ : ∃ n, L.length = n := ⟨_, rfl⟩
  have z1 : w.heap.size ≤ w1.heap.size := b1.size
  rw [hnn]
  clear hCo o1 lt1
  go_wp2
  go_loopw [9, 3] (fun i v wr => ∃ k, k ≤ n ∧ i = .int .i64 k ∧ wr.ownsRow w1.heap.size 9 1 v ((L.take k).map (·.1)).length (((L.take k).map (·.1)).map Value.string) ∧ Below w1.heap.size w1 wr) (fun i _ _ => n - (intOf i).toNat)
  case atStart => exact ⟨0, Nat.zero_le _, rfl, ⟨rfl, .inl ⟨rfl, rfl⟩⟩, Below.refl _ _⟩
  case round =>
    obtain ⟨k, hk, rfl, hown, hbel⟩ := hrel
    have z2 : w1.heap.size ≤ wr.heap.size := hbel.size
    by_cases hlt : k < n
    · have q0 : (k : Int) < (n : Int) := by omega
      obtain ⟨g, rfl⟩ := za1 k (by omega)
      have O2 : OB w1.heap.size wr (some ⟨g, 0, none⟩) L := belowAt OL hbel (Nat.le_refl _)
      have e1 : ((L.take (k + 1)).map (·.1)) = ((L.take k).map (·.1)) ++ [(L.getD k onil).1] := by rw [ob_take L k (by omega), List.map_append]; rfl
      have e2 : ((L.take k).map (·.1)).length ≤ 1000000 := by rw [List.length_map, List.length_take]; omega
      obtain ⟨g', off, e3, hgB, d0, d1, d2⟩ := O2 k (by omega)
      cases e3
      rw [Nat.zero_add] at d0 d1 d2
      have E1 : Hid ((L.take (k + 1)).map (·.1) = ((L.take k).map (·.1)) ++ [(L.getD k onil).1]) := e1
      obtain ⟨PP, hPP⟩ : ∃ P, (L.take k).map (·.1) = P := ⟨_, rfl⟩
      rw [hPP] at hown e2 E1
      obtain ⟨⟨x0, x1, x2⟩, hx⟩ : ∃ x, L.getD k onil = x := ⟨_, rfl⟩
      rw [hx] at d0 d1 d2 E1
      simp only [] at d0 d1 d2 E1
      clear hx hPP e1 O2 OL za1
      have nw := cell_one_new (wr.alloc (.cells #[.string x0, .int .i64 x1, .string x2] 52)) (.string x0) 9
      rw [World.size_alloc] at nw
      have bA := allocBelow wr (.cells #[.string x0, .int .i64 x1, .string x2] 52)
      have bB := bA.trans ((allocBelow (wr.alloc (.cells #[.string x0, .int .i64 x1, .string x2] 52)) (.cells #[.string x0] 9)).mono bA.size)
      have own8 := hown.kept (grownOfBelow bB none) (blockCases _ _ fun b c1 c2 => by cases c2)
      have B8 := hbel.trans (bB.mono z2)
      have z5 : w1.heap.size ≤ ((wr.alloc (.cells #[.string x0, .int .i64 x1, .string x2] 52)).alloc (.cells #[.string x0] 9)).heap.size := B8.size
      have zA : (wr.alloc (.cells #[.string x0, .int .i64 x1, .string x2] 52)).heap.size = wr.heap.size + 1 := World.size_alloc _ _
      have HB8 : Hid (Below w1.heap.size w1 ((wr.alloc (.cells #[.string x0, .int .i64 x1, .string x2] 52)).alloc (.cells #[.string x0] 9))) := B8
      clear hown hbel bA bB B8
      go_wp2_with (at_builtin; refine stopMark ?_)
      change wpList _ _ _ _ _ _
      refine wpList_append_own_at _ rfl (.tmp 13) (.tmp 16) 50 rfl w1.heap.size 9 i0 (.string ByteArray.empty) 1 16 Tryd.underlying50 hi hz0 hz1 hz2 rfl (by decide) _ _ _ rfl own8 ⟨wr.heap.size + 1, 0, none⟩ 1 1 [.string x0] rfl rfl nw (by simp [Value.oneCell']) (by unfold maxLen; omega) (by omega) z5 ?_
      intro v6 w6 o6 g6 _ _
      have HO : Hid (w6.ownsRow w1.heap.size 9 1 v6 ((L.take (k + 1)).map (·.1)).length (((L.take (k + 1)).map (·.1)).map Value.string)) := by
        show World.ownsRow _ _ _ _ _ _ _
        rw [E1.out, List.length_append, List.map_append]; exact o6
      have HB : Hid (Below w1.heap.size w1 w6) := HB8.out.grown g6 z5 (fun j hj => (own8.lt j hj).1)
      clear own8 HB8 o6 g6 nw E1
      go_wp2
      go_roundw
      case rel => exact ⟨k + 1, by omega, by go_num, HO.out, HB.out⟩
      case measure => first | (simp [intOf]; omega) | simp [intOf]
    · have q0 : ¬ (k : Int) < (n : Int) := by omega
      have ek : L.take k = L := List.take_of_length_le (by omega)
      rw [ek] at hown
      have hPn : (L.map (·.1)).length ≤ 1000000 := by rw [List.length_map]; omega
      clear OL za1
      obtain ⟨P, hP⟩ : ∃ P, L.map (·.1) = P := ⟨_, rfl⟩
      rw [hP] at hown hPn
      have hQ : Hid (∀ wB wC a c, wr.grownBy wB _ → wB.grownBy wC _ → wC.ownsRow w1.heap.size 9 1 (.slice a (Lib.compact (srtL (P.map (·.data.toList)))).length c) (Lib.compact (srtL (P.map (·.data.toList)))).length ((Lib.compact (srtL (P.map (·.data.toList)))).map encStr) → QV (ps P) w (.returned (.slice a (Lib.compact (srtL (P.map (·.data.toList)))).length c)) wC) := fun wB wC a c g1 g2 h => qv_of z1 (fun j hj => (hown.lt j hj).1) (b1.trans (hbel.mono z1)) g1 g2 h
      obtain ⟨a, c, rfl⟩ := shapeK3 hown
      have hS := sortOwnC _ _ P wr hown hPn
      go_wp2_with fail
      refine hS.mono ?_; rintro e w3 ⟨rfl, o3, g3⟩
      have hLn : (srtL (P.map (·.data.toList))).length = P.length := by rw [srt_len, List.length_map]
      rw [← hLn] at o3
      have hC := compactOwnC _ _ _ w3 o3 (by omega)
      rw [hLn] at hC
      clear hS
      go_wp2_with fail
      refine hC.mono ?_; rintro e w4 ⟨a4, c4, rfl, o4, g4⟩
      have HH := hQ.out w3 w4 a4 c4 g3 g4 o4
      clear hC hQ o3 o4 g3 g4
      go_wp2
      go_ret
      subst hP
      exact HH
end Go.Proofs.YtaggjnaogmhfpaaDoor.Fl
