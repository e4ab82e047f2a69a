/- Contracts of the library that are laid at this program: Tryz.slices_Sort_string, Tryz.slices_Sort_string_none, Tryz.slices_Compact_string, Tryz.slices_Compact_string_empty. No statement is proved here. -/
import Derived.Shelf.Small.Bits
import Derived.Shelf.Small.Strs
import Derived.Shelf.Strconv.Itoa0
import Derived.Shelf.LaysM
import Derived.Shelf.Strconv.Clone
import Derived.Shelf.Strings.Search1
import Derived.Shelf.Strings.Search2
import Derived.Shelf.Strings.Search3
import Derived.Shelf.Strings.Shaped
import Derived.Shelf.Sort.Plain
import Derived.Shelf.Unicode.Decode
import Derived.Shelf.Unicode.DecodeSlow
import Derived.Shelf.Unicode.DecodeAny
import Derived.Shelf.Slices.CompactS
import Derived.Shelf.Slices.Cells
import Derived.Shelf.Slices.In.SortNone
import Derived.Test.YtkgcpndnlefkoaaGreatDoorProg
import Derived.Test.YtkgcpndnlefkoaaGreatDoorRows
import Derived.Test.YtkgcpndnlefkoaaGreatDoorLemQ
import Derived.Test.YtkgcpndnlefkoaaGreatDoorDTabQ
import Derived.Test.YtkgcpndnlefkoaaGreatDoorInQ
import Derived.Test.YtkgcpndnlefkoaaGreatDoorLFLemQ
import Derived.Test.YtkgcpndnlefkoaaGreatDoorDfMQ
import Derived.Test.YtkgcpndnlefkoaaGreatDoorDfBQ
import Derived.Test.YtkgcpndnlefkoaaGreatDoorDfQQ
import Derived.Test.YtkgcpndnlefkoaaGreatDoorDfGQ
import Derived.Sort.OwnSorted
import Derived.WalkKit
import Derived.ProofKit
import Derived.Below
import Derived.WalkSpells
import Derived.Deep.QuietTactic
import Derived.BigQuiet
import Derived.Deep.RegionWith
import Derived.Deep.RegionHeld
import Derived.Deep.RegionLaw
import Derived.Deep.CutRange
import Derived.Maps.AppendAt
import Derived.Laws.BitsLemmas
import Derived.Laws.Cover1
namespace Go.Proofs
open Go.Shelf
def Tryz.lays190_ren : Go.Shelf.Ren := ⟨fun | 190 => 30 | 125 => 55 | 258 => 54 | 128 => 79 | 129 => 80 | 302 => 70 | 303 => 71 | 304 => 72 | 305 => 73 | 306 => 74 | 307 => 75 | 308 => 76 | 309 => 77 | 310 => 78 | 333 => 90 | 329 => 91 | 330 => 92 | 334 => 93 | 335 => 94 | 336 => 95 | 344 => 101 | n => n, fun | 31 => 39 | 9 => 9 | 3 => 3 | 46 => 88 | 0 => 0 | 51 => 112 | 53 => 114 | 4 => 4 | 183 => 106 | 182 => 105 | 131 => 66 | 5 => 5 | 218 => 119 | 222 => 123 | 228 => 127 | 229 => 128 | n => n, fun | n => n⟩
theorem Tryz.lays190 : Go.Proofs.Lays.n190 Tryz.prog Tryz.lays190_ren := {
  mixed := by kernel_rfl
  f125 := Tryz.func55.trans (congrArg some (by kernel_rfl))
  f128 := Tryz.func79.trans (congrArg some (by kernel_rfl))
  f129 := Tryz.func80.trans (congrArg some (by kernel_rfl))
  f190 := Tryz.func30.trans (congrArg some (by kernel_rfl))
  f258 := Tryz.func54.trans (congrArg some (by kernel_rfl))
  f302 := Tryz.func70.trans (congrArg some (by kernel_rfl))
  f303 := Tryz.func71.trans (congrArg some (by kernel_rfl))
  f304 := Tryz.func72.trans (congrArg some (by kernel_rfl))
  f305 := Tryz.func73.trans (congrArg some (by kernel_rfl))
  f306 := Tryz.func74.trans (congrArg some (by kernel_rfl))
  f307 := Tryz.func75.trans (congrArg some (by kernel_rfl))
  f308 := Tryz.func76.trans (congrArg some (by kernel_rfl))
  f309 := Tryz.func77.trans (congrArg some (by kernel_rfl))
  f310 := Tryz.func78.trans (congrArg some (by kernel_rfl))
  f329 := Tryz.func91.trans (congrArg some (by kernel_rfl))
  f330 := Tryz.func92.trans (congrArg some (by kernel_rfl))
  f333 := Tryz.func90.trans (congrArg some (by kernel_rfl))
  f334 := Tryz.func93.trans (congrArg some (by kernel_rfl))
  f335 := Tryz.func94.trans (congrArg some (by kernel_rfl))
  f336 := Tryz.func95.trans (congrArg some (by kernel_rfl))
  f344 := Tryz.func101.trans (congrArg some (by kernel_rfl))
  t0 := Tryz.underlying0
  a0 := Tryz.isAgg0
  z0 := Tryz.sizeOf0
  v0 := Tryz.zeroValue0
  t3 := Tryz.underlying3
  a3 := Tryz.isAgg3
  z3 := Tryz.sizeOf3
  v3 := Tryz.zeroValue3
  t4 := Tryz.underlying4
  a4 := Tryz.isAgg4
  z4 := Tryz.sizeOf4
  v4 := Tryz.zeroValue4
  t5 := Tryz.underlying5
  a5 := Tryz.isAgg5
  z5 := Tryz.sizeOf5
  v5 := Tryz.zeroValue5
  t9 := Tryz.underlying9
  a9 := Tryz.isAgg9
  z9 := Tryz.sizeOf9
  v9 := Tryz.zeroValue9
  t31 := Tryz.underlying39
  a31 := Tryz.isAgg39
  z31 := Tryz.sizeOf39
  v31 := Tryz.zeroValue39
  t46 := Tryz.underlying88
  a46 := Tryz.isAgg88
  z46 := Tryz.sizeOf88
  v46 := Tryz.zeroValue88
  t51 := Tryz.underlying112
  a51 := Tryz.isAgg112
  z51 := Tryz.sizeOf112
  v51 := Tryz.zeroValue112
  t53 := Tryz.underlying114
  a53 := Tryz.isAgg114
  z53 := Tryz.sizeOf114
  v53 := Tryz.zeroValue114
  t131 := Tryz.underlying66
  a131 := Tryz.isAgg66
  z131 := Tryz.sizeOf66
  v131 := Tryz.zeroValue66
  t182 := Tryz.underlying105
  a182 := Tryz.isAgg105
  z182 := Tryz.sizeOf105
  v182 := Tryz.zeroValue105
  t183 := Tryz.underlying106
  a183 := Tryz.isAgg106
  z183 := Tryz.sizeOf106
  v183 := Tryz.zeroValue106
  t218 := Tryz.underlying119
  a218 := Tryz.isAgg119
  z218 := Tryz.sizeOf119
  v218 := Tryz.zeroValue119
  t222 := Tryz.underlying123
  a222 := Tryz.isAgg123
  z222 := Tryz.sizeOf123
  v222 := Tryz.zeroValue123
  t228 := Tryz.underlying127
  a228 := Tryz.isAgg127
  z228 := Tryz.sizeOf127
  v228 := Tryz.zeroValue127
  t229 := Tryz.underlying128
  a229 := Tryz.isAgg128
  z229 := Tryz.sizeOf128
  v229 := Tryz.zeroValue128 }
open Go.Sort Go.RowKit in
theorem Tryz.slices_Sort_string (blk off cap : Nat) (ss : List (List UInt8)) (w : World) (hH : Holds encStr w blk off ss.toArray) (hblk : blk < w.heap.size) (hsz : ss.length < 4611686018427387904) :
    Calls Tryz.prog 30 #[.slice (some ⟨blk, off, none⟩) ss.length cap] w fun e w' =>
      e = .returned (.tuple #[]) ∧ ∃ n os, w' = grow (putRow encStr (Sort.ahead w n) blk off (ss.mergeSort fun x y => decide (x ≤ y)).toArray) os := Any.slices_Sort_string Tryz.lays190 blk off cap ss w hH hblk hsz
def Tryz.lays194_ren : Go.Shelf.Ren := ⟨fun | 194 => 31 | n => n, fun | 31 => 39 | 9 => 9 | 3 => 3 | 4 => 4 | 0 => 0 | n => n, fun | n => n⟩
theorem Tryz.lays194 : Go.Proofs.Lays.n194 Tryz.prog Tryz.lays194_ren := {
  mixed := by kernel_rfl
  f194 := Tryz.func31.trans (congrArg some (by kernel_rfl))
  t0 := Tryz.underlying0
  a0 := Tryz.isAgg0
  z0 := Tryz.sizeOf0
  v0 := Tryz.zeroValue0
  t3 := Tryz.underlying3
  a3 := Tryz.isAgg3
  z3 := Tryz.sizeOf3
  v3 := Tryz.zeroValue3
  t4 := Tryz.underlying4
  a4 := Tryz.isAgg4
  z4 := Tryz.sizeOf4
  v4 := Tryz.zeroValue4
  t9 := Tryz.underlying9
  a9 := Tryz.isAgg9
  z9 := Tryz.sizeOf9
  v9 := Tryz.zeroValue9
  t31 := Tryz.underlying39
  a31 := Tryz.isAgg39
  z31 := Tryz.sizeOf39
  v31 := Tryz.zeroValue39 }
open Go.RowKit Go.Lib Go.Sort in
theorem Tryz.slices_Compact_string (blk off cap : Nat) (zs : List (List UInt8)) (w : World) (hH : Holds encStr w blk off zs.toArray) (hsz : zs.length ≤ 9223372036854775807) (hcap : zs.length ≤ cap) :
    Calls Tryz.prog 31 #[.slice (some ⟨blk, off, none⟩) zs.length cap] w fun e w' => e = .returned (.slice (some ⟨blk, off, none⟩) (Lib.compact zs).length cap) ∧ ∃ q, w' = putRow encStr (Sort.ahead w q) blk off (Lib.compact zs ++ List.replicate (zs.length - (Lib.compact zs).length) []).toArray := Any.slices_Compact_string Tryz.lays194 blk off cap zs w hH hsz hcap
open Go.RowKit Go.Lib Go.Sort in
theorem Tryz.slices_Compact_string_empty (a : Option Addr) (cap : Nat) (w : World) :
    Calls Tryz.prog 31 #[.slice a 0 cap] w fun e w' => e = .returned (.slice a 0 cap) ∧ w' = w := Any.slices_Compact_string_empty Tryz.lays194 a cap w
open Go.RowKit Go.Sort in
theorem Tryz.slices_Sort_string_none (p : Option Addr) (cap : Nat) (w : World) :
    Calls Tryz.prog 30 #[.slice p 0 cap] w fun e w' => e = .returned (.tuple #[]) ∧ w' = w := Any.slices_Sort_string_none Tryz.lays190 p cap w
end Go.Proofs
/- slices.Sort, slices.Compact at rows of texts of their own; the contract of pathsOf. No statement is proved here. -/
set_option linter.unusedVariables false
namespace Go.Proofs.YtkgcpndnlefkoaaGreatDoor.Fl
open Go.ChangeShapes Go.WideShapes Go.ChangeAt Go.RowKit
open Go.Sort
theorem enc_data (P : List ByteArray) : (P.map (·.data.toList)).map encStr = P.map Value.string := by
  rw [List.map_map]
  apply List.map_congr_left
  intro x _
  cases x; rfl
theorem enc_mk (L : List (List UInt8)) : L.map encStr = (L.map mkB).map Value.string := by
  rw [List.map_map]
  rfl
theorem srt_len (L : List (List UInt8)) : (srtL L).length = L.length := List.length_mergeSort _
/-- A row of texts of the call's own, sorted. -/
theorem sortOwnC (base : Nat) (v : Value) (P : List ByteArray) (w : World) (h : w.ownsRow base 9 1 v P.length (P.map Value.string)) (hn : P.length ≤ 1000000) :
    Calls Tryz.prog 30 #[v] w fun e w' => e = .returned (.tuple #[]) ∧ w'.ownsRow base 9 1 v P.length ((srtL (P.map (·.data.toList))).map encStr) ∧ w.grownBy w' v.ownBlock := by
  rcases h.2 with ⟨rfl, h0⟩ | ⟨g, cap, cur, rfl, hb, hg, hn1, hcm, hcs, ht⟩
  · have e : P = [] := List.length_eq_zero_iff.1 h0
    subst e
    refine (Tryz.slices_Sort_string_none none 0 w).mono ?_
    rintro e w' ⟨rfl, rfl⟩
    exact ⟨rfl, ⟨by simp [srtL], .inl ⟨rfl, rfl⟩⟩, World.grownBy.refl _ _⟩
  · have el : (P.map (·.data.toList)).length = P.length := List.length_map _
    rw [Nat.mul_one] at ht
    have hH := holds_of_block (ss := P.map (·.data.toList)) hg (by rw [el, enc_data]; exact ht)
    have hS := Tryz.slices_Sort_string g 0 cap (P.map (·.data.toList)) w hH (Array.getElem?_eq_some_iff.1 hg).1 (by rw [el]; omega)
    rw [el] at hS
    refine hS.mono ?_
    rintro e w' ⟨rfl, n, os, rfl⟩
    refine ⟨rfl, ?_, grownBy_sorted _⟩
    have k := ownsRow_sorted (n := n) (os := os) (ss := P.map (·.data.toList)) (ts := srtL (P.map (·.data.toList))) (srt_len _) hb hg (by rw [el]; exact hn1) hcm hcs
    rw [el] at k
    exact k
theorem ownCut {w : World} {base g n m cap : Nat} {e : TypeId} {xs : List Value} (h : w.ownsRow base e 1 (.slice (some ⟨g, 0, none⟩) n cap) n xs) (hm : m ≤ n) : w.ownsRow base e 1 (.slice (some ⟨g, 0, none⟩) m cap) m (xs.take m) := by
  have hl := h.1
  refine ⟨by rw [List.length_take]; omega, ?_⟩
  rcases h.2 with ⟨h0, _⟩ | ⟨g1, cap1, cur, e1, hb, hg, hn1, hcm, hcs, ht⟩
  · cases h0
  · cases e1
    refine .inr ⟨g, cap, cur, rfl, hb, hg, by omega, hcm, hcs, ?_⟩
    rw [← ht, Nat.mul_one, Nat.mul_one, List.take_take, Nat.min_eq_left hm]
theorem grow_none (w : World) : grow w #[] = w := by
  cases w
  simp [grow]
/-- A row of texts of the call's own, without runs. -/
theorem compactOwnC (base : Nat) (v : Value) (L : List (List UInt8)) (w : World) (h : w.ownsRow base 9 1 v L.length (L.map encStr)) (hn : L.length ≤ 1000000) :
    Calls Tryz.prog 31 #[v] w fun e w' => ∃ a c, e = .returned (.slice a (Lib.compact L).length c) ∧ w'.ownsRow base 9 1 (.slice a (Lib.compact L).length c) (Lib.compact L).length ((Lib.compact L).map encStr) ∧ w.grownBy w' v.ownBlock := by
  rcases h.2 with ⟨rfl, h0⟩ | ⟨g, cap, cur, rfl, hb, hg, hn1, hcm, hcs, ht⟩
  · have e : L = [] := List.length_eq_zero_iff.1 h0
    subst e
    refine (Tryz.slices_Compact_string_empty none 0 w).mono ?_
    rintro e w' ⟨rfl, rfl⟩
    exact ⟨none, 0, rfl, ⟨rfl, .inl ⟨rfl, rfl⟩⟩, World.grownBy.refl _ _⟩
  · rw [Nat.mul_one] at ht
    have hH := holds_of_block (ss := L) hg ht
    refine (Tryz.slices_Compact_string g 0 cap L w hH (by omega) hn1).mono ?_
    rintro e w' ⟨rfl, q, rfl⟩
    have hc := Lib.compact_length_le L
    have k := ownsRow_sorted (n := q) (os := #[]) (ss := L) (ts := Lib.compact L ++ List.replicate (L.length - (Lib.compact L).length) []) (by rw [List.length_append, List.length_replicate]; omega) hb hg hn1 hcm hcs
    have kg := grownBy_sorted (w := w) (g := g) (n := q) (os := #[]) (Lib.compact L ++ List.replicate (L.length - (Lib.compact L).length) []).toArray
    rw [grow_none] at k kg
    refine ⟨some ⟨g, 0, none⟩, cap, rfl, ?_, kg⟩
    have k2 := ownCut k hc
    have et : List.take (Lib.compact L).length ((Lib.compact L ++ List.replicate (L.length - (Lib.compact L).length) []).map encStr) = (Lib.compact L).map encStr := by
      rw [List.map_append, List.take_left' (List.length_map _)]
    rw [et] at k2
    exact k2
/-- Paths in memory of their own, or none. -/
def QV (Q : List ByteArray) (w : World) (e : Ending) (w' : World) : Prop := ∃ a c, e = .returned (.slice a Q.length c) ∧ w'.ownsRow w.heap.size 9 1 (.slice a Q.length c) Q.length (Q.map Value.string) ∧ Below w.heap.size w w'
theorem qv_of {P : List ByteArray} {w wA wB wC : World} {B : Nat} {v : Value} {a : Option Addr} {c : Nat} (hB : w.heap.size ≤ B) (hv : ∀ j, v.ownBlock = some j → B ≤ j) (b : Below w.heap.size w wA) (g1 : wA.grownBy wB v.ownBlock) (g2 : wB.grownBy wC v.ownBlock)
    (ho : wC.ownsRow B 9 1 (.slice a (Lib.compact (srtL (P.map (·.data.toList)))).length c) (Lib.compact (srtL (P.map (·.data.toList)))).length ((Lib.compact (srtL (P.map (·.data.toList)))).map encStr)) : QV (ps P) w (.returned (.slice a (Lib.compact (srtL (P.map (·.data.toList)))).length c)) wC := by
  have el : (ps P).length = (Lib.compact (srtL (P.map (·.data.toList)))).length := List.length_map _
  refine ⟨a, c, by rw [el], ?_, (b.grown g1 b.size (fun j hj => Nat.le_trans hB (hv j hj))).grown g2 (Nat.le_trans b.size g1.size) (fun j hj => Nat.le_trans hB (hv j hj))⟩
  rw [el]
  rw [enc_mk] at ho
  exact ownMonoF ho hB
set_option maxRecDepth 20000 in
set_option maxHeartbeats 8000000 in
theorem pathsOfC (gB cc : Nat) (LS : List Li) (w : World) (hl : LS.length ≤ 1000) (hc : ∀ k, k < LS.length → w.cell? ⟨gB, k, none⟩ = some (lv (LS.getD k lnil))) (hg : gB < w.heap.size) (ho : ∀ k, k < LS.length → OB w.heap.size w (LS.getD k lnil).1 (LS.getD k lnil).2.2) (hz : ∀ k, k < LS.length → (LS.getD k lnil).1 = none → (LS.getD k lnil).2.1 = 0) (hn : (allOf LS).length ≤ 1000000) :
    Calls Tryz.prog 13 #[.slice (some ⟨gB, 0, none⟩) LS.length cc] w fun e w' => QV (ps ((allOf LS).map (·.1))) w e w' := by
  obtain ⟨i0, hi, hz0, hz1, hz2⟩ := info_parts infoString
  have hCo := concatC gB cc LS w hl hc hg ho hz hn
  unfold FO at hCo
  obtain ⟨L, hL⟩ : ∃ L, allOf LS = L := ⟨_, rfl⟩
  simp only [hL] at hCo hn ⊢
  clear hL hc hg ho hz hl
  go_enter Tryz.func13, Tryz.ntmps13
  go_wp2_with fail
  refine hCo.mono ?_; rintro e w1 ⟨v1, rfl, o1, b1⟩
  obtain ⟨a1, c1, rfl⟩ := shapeK3 o1
  have OL : OB w1.heap.size w1 a1 L := OB.of o1
  have lt1 := fun j h => (o1.lt j h).2
  have za1 : ∀ k, k < L.length → ∃ g, a1 = some ⟨g, 0, none⟩ := fun k hk => by
    rcases o1.2 with ⟨_, h0⟩ | ⟨g, cap, cur, e, _⟩
    · omega
    · cases e; exact ⟨g, rfl⟩
  obtain ⟨n, hnn⟩ : ∃ n, L.length = n := ⟨_, rfl⟩
  have z1 : w.heap.size ≤ w1.heap.size := b1.size
  rw [hnn]
  clear hCo o1 lt1
  go_wp2
  go_loopw [9, 3] (fun i v wr => ∃ k, k ≤ n ∧ i = .int .i64 k ∧ wr.ownsRow w1.heap.size 9 1 v ((L.take k).map (·.1)).length (((L.take k).map (·.1)).map Value.string) ∧ Below w1.heap.size w1 wr) (fun i _ _ => n - (intOf i).toNat)
  case atStart => exact ⟨0, Nat.zero_le _, rfl, ⟨rfl, .inl ⟨rfl, rfl⟩⟩, Below.refl _ _⟩
  case round =>
    obtain ⟨k, hk, rfl, hown, hbel⟩ := hrel
    have z2 : w1.heap.size ≤ wr.heap.size := hbel.size
    by_cases hlt : k < n
    · have q0 : (k : Int) < (n : Int) := by omega
      obtain ⟨g, rfl⟩ := za1 k (by omega)
      have O2 : OB w1.heap.size wr (some ⟨g, 0, none⟩) L := belowAt OL hbel (Nat.le_refl _)
      have e1 : ((L.take (k + 1)).map (·.1)) = ((L.take k).map (·.1)) ++ [(L.getD k onil).1] := by rw [ob_take L k (by omega), List.map_append]; rfl
      have e2 : ((L.take k).map (·.1)).length ≤ 1000000 := by rw [List.length_map, List.length_take]; omega
      obtain ⟨g', off, e3, hgB, d0, d1, d2⟩ := O2 k (by omega)
      cases e3
      rw [Nat.zero_add] at d0 d1 d2
      have E1 : Hid ((L.take (k + 1)).map (·.1) = ((L.take k).map (·.1)) ++ [(L.getD k onil).1]) := e1
      obtain ⟨PP, hPP⟩ : ∃ P, (L.take k).map (·.1) = P := ⟨_, rfl⟩
      rw [hPP] at hown e2 E1
      obtain ⟨⟨x0, x1, x2⟩, hx⟩ : ∃ x, L.getD k onil = x := ⟨_, rfl⟩
      rw [hx] at d0 d1 d2 E1
      simp only [] at d0 d1 d2 E1
      clear hx hPP e1 O2 OL za1
      have nw := cell_one_new (wr.alloc (.cells #[.string x0, .int .i64 x1, .string x2] 42)) (.string x0) 9
      rw [World.size_alloc] at nw
      have bA := allocBelow wr (.cells #[.string x0, .int .i64 x1, .string x2] 42)
      have bB := bA.trans ((allocBelow (wr.alloc (.cells #[.string x0, .int .i64 x1, .string x2] 42)) (.cells #[.string x0] 9)).mono bA.size)
      have own8 := hown.kept (grownOfBelow bB none) (blockCases _ _ fun b c1 c2 => by cases c2)
      have B8 := hbel.trans (bB.mono z2)
      have z5 : w1.heap.size ≤ ((wr.alloc (.cells #[.string x0, .int .i64 x1, .string x2] 42)).alloc (.cells #[.string x0] 9)).heap.size := B8.size
      have zA : (wr.alloc (.cells #[.string x0, .int .i64 x1, .string x2] 42)).heap.size = wr.heap.size + 1 := World.size_alloc _ _
      have HB8 : Hid (Below w1.heap.size w1 ((wr.alloc (.cells #[.string x0, .int .i64 x1, .string x2] 42)).alloc (.cells #[.string x0] 9))) := B8
      clear hown hbel bA bB B8
      go_wp2_with (at_builtin; refine stopMark ?_)
      change wpList _ _ _ _ _ _
      refine wpList_append_own_at _ rfl (.tmp 13) (.tmp 16) 39 rfl w1.heap.size 9 i0 (.string ByteArray.empty) 1 16 Tryz.underlying39 hi hz0 hz1 hz2 rfl (by decide) _ _ _ rfl own8 ⟨wr.heap.size + 1, 0, none⟩ 1 1 [.string x0] rfl rfl nw (by simp [Value.oneCell']) (by unfold maxLen; omega) (by omega) z5 ?_
      intro v6 w6 o6 g6 _ _
      have HO : Hid (w6.ownsRow w1.heap.size 9 1 v6 ((L.take (k + 1)).map (·.1)).length (((L.take (k + 1)).map (·.1)).map Value.string)) := by
        show World.ownsRow _ _ _ _ _ _ _
        rw [E1.out, List.length_append, List.map_append]; exact o6
      have HB : Hid (Below w1.heap.size w1 w6) := HB8.out.grown g6 z5 (fun j hj => (own8.lt j hj).1)
      clear own8 HB8 o6 g6 nw E1
      go_wp2
      go_roundw
      case rel => exact ⟨k + 1, by omega, by go_num, HO.out, HB.out⟩
      case measure => first | (simp [intOf]; omega) | simp [intOf]
    · have q0 : ¬ (k : Int) < (n : Int) := by omega
      have ek : L.take k = L := List.take_of_length_le (by omega)
      rw [ek] at hown
      have hPn : (L.map (·.1)).length ≤ 1000000 := by rw [List.length_map]; omega
      clear OL za1
      obtain ⟨P, hP⟩ : ∃ P, L.map (·.1) = P := ⟨_, rfl⟩
      rw [hP] at hown hPn
      have hQ : Hid (∀ wB wC a c, wr.grownBy wB _ → wB.grownBy wC _ → wC.ownsRow w1.heap.size 9 1 (.slice a (Lib.compact (srtL (P.map (·.data.toList)))).length c) (Lib.compact (srtL (P.map (·.data.toList)))).length ((Lib.compact (srtL (P.map (·.data.toList)))).map encStr) → QV (ps P) w (.returned (.slice a (Lib.compact (srtL (P.map (·.data.toList)))).length c)) wC) := fun wB wC a c g1 g2 h => qv_of z1 (fun j hj => (hown.lt j hj).1) (b1.trans (hbel.mono z1)) g1 g2 h
      obtain ⟨a, c, rfl⟩ := shapeK3 hown
      have hS := sortOwnC _ _ P wr hown hPn
      go_wp2_with fail
      refine hS.mono ?_; rintro e w3 ⟨rfl, o3, g3⟩
      have hLn : (srtL (P.map (·.data.toList))).length = P.length := by rw [srt_len, List.length_map]
      rw [← hLn] at o3
      have hC := compactOwnC _ _ _ w3 o3 (by omega)
      rw [hLn] at hC
      clear hS
      go_wp2_with fail
      refine hC.mono ?_; rintro e w4 ⟨a4, c4, rfl, o4, g4⟩
      have HH := hQ.out w3 w4 a4 c4 g3 g4 o4
      clear hC hQ o3 o4 g3 g4
      go_wp2
      go_ret
      subst hP
      exact HH
end Go.Proofs.YtkgcpndnlefkoaaGreatDoor.Fl
