/- A text put into a list of texts, whatever the list: the specification's. No statement is proved here. -/
import Derived.Test.YtipdebodanhooaaDoorRows
import Derived.Test.YtipdebodanhooaaDoorLemQ
import Derived.Test.YtipdebodanhooaaDoorLFLemQ
import Derived.Test.YtipdebodanhooaaDoorDTabQ
import Derived.Test.YtipdebodanhooaaDoorHkTQ
import Derived.Test.YtipdebodanhooaaDoorEnLQ
import Derived.Test.YtipdebodanhooaaDoorFlLQ
import Derived.Test.YtipdebodanhooaaDoorIxMQ
import Derived.Test.YtipdebodanhooaaDoorIxNQ
import Derived.Test.YtipdebodanhooaaDoorSlBQ
import Derived.Test.YtipdebodanhooaaDoorSsBQ
import Derived.Test.YtipdebodanhooaaDoorSgCQ
import Derived.Test.YtipdebodanhooaaDoorClIQ
import Derived.Test.YtipdebodanhooaaDoorClPQ
import Derived.WalkKit
import Derived.ProofKit
import Derived.Below
import Derived.WalkSpells
import Derived.Deep.QuietTactic
import Derived.BigQuiet
import Derived.Deep.RegionWith
import Derived.Deep.RegionHeld
import Derived.Deep.Cut
import Derived.Deep.CutRange
import Derived.Maps.AppendAt
import Derived.Laws.Cover1
set_option linter.unusedVariables false
namespace Go.Proofs.YtipdebodanhooaaDoor.En
open Go.ChangeShapes Go.WideShapes Go.ChangeAt Go.RowKit
/-- Where a text goes in a list: ahead of the first that is not less. -/
def at9 (l : List ByteArray) (s : ByteArray) : Nat := (l.takeWhile fun x => Op.bytesLess x.toList s.toList).length
def put9 (l : List ByteArray) (s : ByteArray) : List ByteArray := if at9 l s < l.length ∧ l.getD (at9 l s) ByteArray.empty = s then l else l.take (at9 l s) ++ s :: l.drop (at9 l s)
theorem at9_of {s : ByteArray} : ∀ {l : List ByteArray} {k : Nat}, k ≤ l.length → (∀ j, j < k → Op.bytesLess (l.getD j ByteArray.empty).toList s.toList = true) → (k < l.length → Op.bytesLess (l.getD k ByteArray.empty).toList s.toList = false) → at9 l s = k
  | [], k, hk, _, _ => by have : k = 0 := by simpa using hk
                          rw [this]; rfl
  | x :: t, 0, _, _, h => by
    have h0 : Op.bytesLess x.toList s.toList = false := h (by simp)
    unfold at9
    rw [List.takeWhile_cons, if_neg (by rw [h0]; decide)]; rfl
  | x :: t, k + 1, hk, hl, h => by
    have h0 : Op.bytesLess x.toList s.toList = true := hl 0 (by omega)
    have ih := at9_of (s := s) (l := t) (k := k) (by simpa using hk) (fun j hj => by have q := hl (j + 1) (by omega); simpa using q) (fun q => by have q2 := h (by simpa using q); simpa using q2)
    unfold at9 at ih ⊢
    rw [List.takeWhile_cons, if_pos h0, List.length_cons, ih]
theorem put9_same {l : List ByteArray} {s : ByteArray} {k : Nat} (h : at9 l s = k) (hk : k < l.length) (e : l.getD k ByteArray.empty = s) : put9 l s = l := by
  unfold put9; rw [h, if_pos ⟨hk, e⟩]
theorem put9_new {l : List ByteArray} {s : ByteArray} {k : Nat} (h : at9 l s = k) (e : ¬ (k < l.length ∧ l.getD k ByteArray.empty = s)) : put9 l s = l.take k ++ s :: l.drop k := by
  unfold put9; rw [h, if_neg e]
theorem put9_len (l : List ByteArray) (s : ByteArray) : (put9 l s).length ≤ l.length + 1 := by
  unfold put9
  split
  · omega
  · rw [List.length_append, List.length_cons, List.length_take, List.length_drop]; omega
theorem put9_mem {l : List ByteArray} {s x : ByteArray} (h : x ∈ put9 l s) : x ∈ l ∨ x = s := by
  unfold put9 at h
  split at h
  · exact .inl h
  · rcases List.mem_append.1 h with h | h
    · exact .inl (List.mem_of_mem_take h)
    · rcases List.mem_cons.1 h with h | h
      · exact .inr h
      · exact .inl (List.mem_of_mem_drop h)
theorem newsTakeS {w : World} {g : Nat} {l : List ByteArray} (h : ∀ j u, (l.map Value.string)[j]? = some u → w.cell? ((⟨g, 0, none⟩ : Addr).add j) = some u) (n : Nat) : ∀ j u, ((l.take n).map Value.string)[j]? = some u → w.cell? ((⟨g, 0, none⟩ : Addr).add j) = some u := by
  intro j u hu
  refine h j u ?_
  rw [List.map_take, List.getElem?_take] at hu
  split at hu
  · exact hu
  · cases hu
theorem newsDropS {w : World} {g : Nat} {l : List ByteArray} (h : ∀ j u, (l.map Value.string)[j]? = some u → w.cell? ((⟨g, 0, none⟩ : Addr).add j) = some u) (n : Nat) : ∀ j u, ((l.drop n).map Value.string)[j]? = some u → w.cell? ((⟨g, n, none⟩ : Addr).add j) = some u := by
  intro j u hu
  have q := h (n + j) u (by rw [List.map_drop, List.getElem?_drop] at hu; exact hu)
  rw [add_plain] at q ⊢
  rw [Nat.zero_add] at q
  exact q
theorem newsKeepS {w w' : World} {row : Option Nat} {g o : Nat} {xs : List Value} (hg : w.grownBy w' row) (hne : some g ≠ row) (h : ∀ j u, xs[j]? = some u → w.cell? ((⟨g, o, none⟩ : Addr).add j) = some u) : ∀ j u, xs[j]? = some u → w'.cell? ((⟨g, o, none⟩ : Addr).add j) = some u := fun j u hu => by
  have q := h j u hu
  rw [add_plain] at q ⊢
  exact hg.cell q hne
set_option maxRecDepth 20000 in
set_option maxHeartbeats 8000000 in
theorem l9PutW (base g c : Nat) (l : List ByteArray) (s : ByteArray) (w : World) (h : w.ownsRow base 9 1 (.slice (some ⟨g, 0, none⟩) l.length c) l.length (l.map Value.string)) (hn : l.length ≤ 1048570) (hbase : base ≤ w.heap.size) :
    Calls Tryd.prog 47 #[.slice (some ⟨g, 0, none⟩) l.length c, .string s] w fun e w' => P9 base (put9 l s) w e w' := by
  have hcap : l.length ≤ c := by
    rcases h.2 with ⟨h', h0⟩ | ⟨b, cap, cur, h', _, _, h1, _⟩
    · cases h'
    · simp only [Value.slice.injEq] at h'
      obtain ⟨_, _, rfl⟩ := h'
      exact h1
  go_enter Tryd.func47, Tryd.ntmps47
  go_wp2
  go_loopw [5] (fun vi wr => ∃ k : Nat, k ≤ l.length ∧ vi = .int .i64 k ∧ (∃ n, wr = w.drewN n) ∧ Hid (∀ j, j < k → Op.bytesLess (l.getD j ByteArray.empty).toList s.toList = true)) (fun vi _ => l.length - (intOf vi).toNat)
  case atStart => exact ⟨0, Nat.zero_le _, rfl, ⟨0, rfl⟩, fun j hj => absurd hj (Nat.not_lt_zero _)⟩
  case round =>
    obtain ⟨k, hk, rfl, ⟨nr, hwr⟩, hlo⟩ := hrel
    have HW : Hid (wr = w.drewN nr) := hwr
    obtain ⟨G, hG⟩ : ∃ G, decide (k < l.length ∧ Op.bytesLess (l.getD k ByteArray.empty).toList s.toList = true) = G := ⟨_, rfl⟩
    have HG : Hid (decide (k < l.length ∧ Op.bytesLess (l.getD k ByteArray.empty).toList s.toList = true) = G) := hG
    clear hG
    go_upto_region 2 with fail
    go_cut [17] from 6 to 17 (fun sx wx => sx = .bool G ∧ ∃ n, wx = w.drewN n)
    case first =>
      clear hlo
      by_cases hlt : k < l.length
      · have qk : (k : Int) < (l.length : Int) := by omega
        obtain ⟨g', eg, cg, _⟩ := rowS h k hlt
        simp only [Option.some.injEq, Addr.mk.injEq, and_true] at eg
        subst eg
        have cg' : wr.cell? ⟨g, k, none⟩ = some (.string (l.getD k ByteArray.empty)) := by rw [hwr]; exact cg
        have hle := HG.out
        obtain ⟨X, hX⟩ : ∃ X, l.getD k ByteArray.empty = X := ⟨_, rfl⟩
        rw [hX] at cg' hle
        cases hb : Op.bytesLess X.toList s.toList with
        | true =>
          have hG2 : G = true := by rw [← hle]; exact decide_eq_true ⟨hlt, hb⟩
          subst hG2
          clear hX h hwr cg HG hle
          go_wp2_with fail
          go_meet
          exact ⟨rfl, nr, HW.out⟩
        | false =>
          have hG2 : G = false := by rw [← hle]; exact decide_eq_false (fun q => by rw [hb] at q; cases q.2)
          subst hG2
          clear hX h hwr cg HG hle
          go_wp2_with fail
          go_meet
          exact ⟨rfl, nr, HW.out⟩
      · have qk : ¬ (k : Int) < (l.length : Int) := by omega
        have hG2 : G = false := by rw [← HG.out]; exact decide_eq_false (fun q => hlt q.1)
        subst hG2
        clear h hwr HG
        go_wp2_with fail
        go_meet
        exact ⟨rfl, nr, HW.out⟩
    case rest =>
    obtain ⟨rfl, nr2, hwc⟩ := hcut
    obtain ⟨w5, hw5⟩ : ∃ w5, wc = w5 := ⟨_, rfl⟩
    rw [hw5] at hwc ⊢
    clear hw5
    have hG := HG.out
    cases G with
    | true =>
      have hgo := of_decide_eq_true hG
      have HL : Hid (∀ j, j < k + 1 → Op.bytesLess (l.getD j ByteArray.empty).toList s.toList = true) := fun j hj => by
        by_cases e : j = k
        · rw [e]; exact hgo.2
        · exact hlo.out j (by omega)
      have HWC : Hid (w5 = w.drewN nr2) := hwc
      clear h hwr hwc HG hG hlo
      go_wp2
      go_roundw
      case rel => exact ⟨k + 1, by omega, by go_num, ⟨nr2, HWC.out⟩, HL⟩
      case measure => simp [intOf]; omega
    | false =>
      have hK : at9 l s = k := at9_of hk hlo.out (fun q => by
        cases hb : Op.bytesLess (l.getD k ByteArray.empty).toList s.toList with
        | false => rfl
        | true => exact absurd ⟨q, hb⟩ (of_decide_eq_false hG))
      have h1 : w5.ownsRow base 9 1 (.slice (some ⟨g, 0, none⟩) l.length c) l.length (l.map Value.string) := by rw [hwc]; exact h
      have BW : Below w.heap.size w w5 := by rw [hwc]; exact below_drewN' (Below.refl _ _) _
      have zW0 : w.heap.size ≤ w5.heap.size := BW.size
      obtain ⟨D, hD⟩ : ∃ D, decide (k < l.length ∧ l.getD k ByteArray.empty = s) = D := ⟨_, rfl⟩
      have HD : Hid (decide (k < l.length ∧ l.getD k ByteArray.empty = s) = D) := hD
      clear h hwr hwc HG hG hlo hD HW
      go_upto_region 4 with fail
      go_cut [31] from 20 to 31 (fun sx wx => sx = .bool D ∧ ∃ n, wx = w5.drewN n)
      case first =>
        clear BW zW0 hK
        by_cases hlt : k < l.length
        · have qk : (k : Int) < (l.length : Int) := by omega
          obtain ⟨g', eg, cg, _⟩ := rowS h1 k hlt
          simp only [Option.some.injEq, Addr.mk.injEq, and_true] at eg
          subst eg
          have hle := HD.out
          obtain ⟨X, hX⟩ : ∃ X, l.getD k ByteArray.empty = X := ⟨_, rfl⟩
          rw [hX] at cg hle
          by_cases hb : X = s
          · have hG2 : D = true := by rw [← hle]; exact decide_eq_true ⟨hlt, hb⟩
            have q0 := beq_bytes_true hb
            subst hG2
            clear hX h1 HD hle hb
            go_wp2_with fail
            go_meet
            exact ⟨rfl, 0, rfl⟩
          · have hG2 : D = false := by rw [← hle]; exact decide_eq_false (fun q => hb q.2)
            have q0 := beq_bytes_false hb
            subst hG2
            clear hX h1 HD hle hb
            go_wp2_with fail
            go_meet
            exact ⟨rfl, 0, rfl⟩
        · have qk : ¬ (k : Int) < (l.length : Int) := by omega
          have hG2 : D = false := by rw [← HD.out]; exact decide_eq_false (fun q => hlt q.1)
          subst hG2
          clear h1 HD
          go_wp2_with fail
          go_meet
          exact ⟨rfl, 0, rfl⟩
      case rest =>
      obtain ⟨rfl, nr3, hwd⟩ := hcut
      obtain ⟨w6, hw6⟩ : ∃ w6, wc = w6 := ⟨_, rfl⟩
      rw [hw6] at hwd ⊢
      clear hw6
      have hW := hwd.symm
      clear hwd
      have h2 : w6.ownsRow base 9 1 (.slice (some ⟨g, 0, none⟩) l.length c) l.length (l.map Value.string) := by rw [← hW]; exact h1
      have BW2 : Below w.heap.size w w6 := by rw [← hW]; exact below_drewN' BW _
      have zW : w.heap.size ≤ w6.heap.size := BW2.size
      clear h1 BW zW0 hW
      cases D with
      | true =>
        have hgo := of_decide_eq_true HD.out
        have HF : Hid (P9 base (put9 l s) w (.returned (.slice (some ⟨g, 0, none⟩) l.length c)) w6) := by rw [put9_same hK hgo.1 hgo.2]; exact ⟨g, c, rfl, h2, BW2⟩
        clear h2 BW2 HD hgo
        go_wp2
        go_ret
        exact HF.out
      | false =>
        have HK : Hid (put9 l s = l.take k ++ s :: l.drop k) := put9_new hK (of_decide_eq_false HD.out)
        clear HD hK
        have qkc : (k : Int) ≤ (c : Int) := by omega
        have qkl : (k : Int) ≤ (l.length : Int) := by omega
        have qn0 : (0 : Int) ≤ (k : Int) := by omega
        obtain ⟨i0, hi, hz0, hz1, hz2⟩ := info_parts strInfo
        obtain ⟨z, hzz⟩ : ∃ z, w6.heap.size = z := ⟨_, rfl⟩
        have hgz : g < z := by have := (h2.lt g rfl).2; omega
        have neX : ∀ {W : World} {v : Value} {n : Nat} {xs : List Value} (h : W.ownsRow z 9 1 v n xs), some g ≠ v.ownBlock := fun h e => by have := (h.lt g e.symm).1; omega
        have bA := allocBelow w6 (.cells #[] 9)
        have bB := allocBelow (w6.alloc (.cells #[] 9)) (.cells #[.string s] 9)
        have bC := allocBelow w6 (.cells #[.string s] 9)
        have bD := allocBelow (w6.alloc (.cells #[.string s] 9)) (.cells #[] 9)
        have o1 := litT w6
        have kA := h2.kept (grownOfBelow bA none) (blockCases _ _ fun b c1 c2 => by cases c2)
        have kAB := kA.kept (grownOfBelow bB none) (blockCases _ _ fun b c1 c2 => by cases c2)
        have kBA := (h2.kept (grownOfBelow bC none) (blockCases _ _ fun b c1 c2 => by cases c2)).kept (grownOfBelow bD none) (blockCases _ _ fun b c1 c2 => by cases c2)
        have fA : ∀ j u, (l.map Value.string)[j]? = some u → (w6.alloc (.cells #[] 9)).drew.cell? ((⟨g, 0, none⟩ : Addr).add j) = some u := newsT kA
        have fAB : ∀ j u, (l.map Value.string)[j]? = some u → ((w6.alloc (.cells #[] 9)).alloc (.cells #[.string s] 9)).drew.cell? ((⟨g, 0, none⟩ : Addr).add j) = some u := newsT kAB.drew
        have fBA : ∀ j u, (l.map Value.string)[j]? = some u → ((w6.alloc (.cells #[.string s] 9)).alloc (.cells #[] 9)).drew.cell? ((⟨g, 0, none⟩ : Addr).add j) = some u := newsT kBA.drew
        have nA := newsTakeS fA k
        have nAB := newsTakeS fAB k
        have nBA := newsTakeS fBA k
        have oA : (w6.alloc (.cells #[] 9)).drew.ownsRow z 9 1 (.slice (some ⟨z, 0, none⟩) 0 0) 0 [] := by rw [← hzz]; exact o1
        have oAB : ((w6.alloc (.cells #[] 9)).alloc (.cells #[.string s] 9)).drew.ownsRow z 9 1 (.slice (some ⟨z, 0, none⟩) 0 0) 0 [] := by rw [← hzz]; exact (o1.kept (grownOfBelow bB none) (blockCases _ _ fun b c1 c2 => by cases c2)).drew
        have cAB : ((w6.alloc (.cells #[] 9)).alloc (.cells #[.string s] 9)).drew.cell? ⟨z + 1, 0, none⟩ = some (.string s) := by
          have q := Rs.new (w6.alloc (.cells #[] 9)) #[.string s] 9 0 _ rfl
          rw [World.size_alloc, hzz] at q
          exact q
        have oBA : ((w6.alloc (.cells #[.string s] 9)).alloc (.cells #[] 9)).drew.ownsRow z 9 1 (.slice (some ⟨z + 1, 0, none⟩) 0 0) 0 [] := by
          have q := litT (w6.alloc (.cells #[.string s] 9))
          rw [World.size_alloc, hzz] at q
          exact ownMonoF q (by omega)
        have cBA : ((w6.alloc (.cells #[.string s] 9)).alloc (.cells #[] 9)).drew.cell? ⟨z, 0, none⟩ = some (.string s) := by
          have q := (Fr.ofBelow (lo := 0) (hi := 0) bD).cell (Rs.new w6 #[.string s] 9 0 _ rfl) (.inr (Nat.zero_le _))
          rw [hzz] at q
          exact q
        have BA : Below w.heap.size w (w6.alloc (.cells #[] 9)).drew := (BW2.trans (bA.mono zW)).drew
        have BAB : Below w.heap.size w ((w6.alloc (.cells #[] 9)).alloc (.cells #[.string s] 9)).drew := ((BW2.trans (bA.mono zW)).trans (bB.mono (by simp; omega))).drew
        have BBA : Below w.heap.size w ((w6.alloc (.cells #[.string s] 9)).alloc (.cells #[] 9)).drew := ((BW2.trans (bC.mono zW)).trans (bD.mono (by simp; omega))).drew
        have zA : z ≤ (w6.alloc (.cells #[] 9)).drew.heap.size := by simp; omega
        have zAB : z ≤ ((w6.alloc (.cells #[] 9)).alloc (.cells #[.string s] 9)).drew.heap.size := by simp; omega
        have zBA : z ≤ ((w6.alloc (.cells #[.string s] 9)).alloc (.cells #[] 9)).drew.heap.size := by simp; omega
        have hlt : ((l.take k).map Value.string).length = k * 1 := by rw [List.length_map, List.length_take]; omega
        replace zW : w.heap.size ≤ z := by omega
        by_cases hcc : k = c
        · have e0 : l.drop k = [] := List.drop_eq_nil_of_le (by omega)
          have hld : ((l.drop k).map Value.string).length = 0 * 1 := by rw [e0]; rfl
          have nD : ∀ (W : World) i u, ((l.drop k).map Value.string)[i]? = some u → W.cell? ((⟨g, 0, none⟩ : Addr).add i) = some u := fun W i u hu => by rw [e0] at hu; simp at hu
          have nDA := nD (w6.alloc (.cells #[] 9)).drew
          have nDB := nD ((w6.alloc (.cells #[] 9)).alloc (.cells #[.string s] 9)).drew
          have nDC := nD ((w6.alloc (.cells #[.string s] 9)).alloc (.cells #[] 9)).drew
          subst hcc
          clear nD e0 kA kAB kBA fA fAB fBA bA bB bC bD o1 h2 BW2
          go_wp2_with fail
          go_region_law (first
              | (have gd := p5; clear gd; refine stepApp rfl (.tmp 40) (.tmp 43) 33 rfl z 9 i0 (.string ByteArray.empty) 1 16 Tryd.underlying33 hi hz0 hz1 hz2 rfl (by decide) (.slice ua (k + 1) uc) _ _ rfl p5 ⟨g, 0, none⟩ 0 _ ((l.drop k).map Value.string) rfl hld D5 (oneStr _) (by unfold maxLen; omega) (by omega) z5 ?_; intro v7 w7 p7 g7 _; have B7 := B5.grown g7 B5.size (fun j hj => Nat.le_trans zW (p5.lt j hj).1))
              | (have gd := mkA; clear gd; refine stepApp rfl (.tmp 37) (.tmp 39) 33 rfl z 9 i0 (.string ByteArray.empty) 1 16 Tryd.underlying33 hi hz0 hz1 hz2 rfl (by decide) (.slice va k vc) _ _ rfl pB ⟨w3.heap.size, 0, none⟩ 1 1 ([s].map Value.string) rfl rfl nB (oneStr _) (by unfold maxLen; omega) (by omega) zB ?_; intro v5 w5 p5 g5 _; obtain ⟨ua, uc, rfl⟩ := shapeK3 p5; have z5 := Nat.le_trans zB g5.size; have B5 := B4.grown g5 B4.size (fun j hj => Nat.le_trans zW (pB.lt j hj).1); have D5 := newsKeepS g5 (neX pB) D4)
              | (have gd := mkB; clear gd; refine stepApp rfl (.tmp 37) (.tmp 39) 33 rfl z 9 i0 (.string ByteArray.empty) 1 16 Tryd.underlying33 hi hz0 hz1 hz2 rfl (by decide) (.slice va k vc) _ _ rfl p3 ⟨z + 1, 0, none⟩ 1 1 ([s].map Value.string) rfl rfl nC (oneStr _) (by unfold maxLen; omega) (by omega) zC ?_; intro v5 w5 p5 g5 _; obtain ⟨ua, uc, rfl⟩ := shapeK3 p5; have z5 := Nat.le_trans zC g5.size; have B5 := B3.grown g5 B3.size (fun j hj => Nat.le_trans zW (p3.lt j hj).1); have D5 := newsKeepS g5 (neX p3) D3)
              | (have gd := mkC; clear gd; refine stepApp rfl (.tmp 37) (.tmp 39) 33 rfl z 9 i0 (.string ByteArray.empty) 1 16 Tryd.underlying33 hi hz0 hz1 hz2 rfl (by decide) (.slice va k vc) _ _ rfl p3 ⟨z, 0, none⟩ 1 1 ([s].map Value.string) rfl rfl nE (oneStr _) (by unfold maxLen; omega) (by omega) zE ?_; intro v5 w5 p5 g5 _; obtain ⟨ua, uc, rfl⟩ := shapeK3 p5; have z5 := Nat.le_trans zE g5.size; have B5 := B3.grown g5 B3.size (fun j hj => Nat.le_trans zW (p3.lt j hj).1); have D5 := newsKeepS g5 (neX p3) D3)
              | (refine stepApp rfl (.tmp 33) (.tmp 36) 33 rfl z 9 i0 (.string ByteArray.empty) 1 16 Tryd.underlying33 hi hz0 hz1 hz2 rfl (by decide) (.slice (some ⟨z, 0, none⟩) 0 0) _ _ rfl oA ⟨g, 0, none⟩ k _ ((l.take k).map Value.string) rfl hlt nA (oneStr _) (by unfold maxLen; omega) (by omega) zA ?_; intro v3 w3 p3 g3' _; replace p3 := zadd p3; obtain ⟨va, vc, rfl⟩ := shapeK3 p3; have mkA := p3; have zz3 := g3'.size; have B3 := BA.grown g3' BA.size (fun j hj => Nat.le_trans zW (oA.lt j hj).1); have D3 := newsKeepS g3' (neX oA) nDA; have pB := p3.kept (grownOfBelow (allocBelow w3 (.cells #[.string s] 9)) none) (blockCases _ _ fun b c1 c2 => by cases c2); have nB := newT w3 s; have zB : z ≤ (w3.alloc (.cells #[.string s] 9)).heap.size := Nat.le_trans (Nat.le_trans zA zz3) (allocBelow w3 (.cells #[.string s] 9)).size; have B4 := B3.trans ((allocBelow w3 (.cells #[.string s] 9)).mono B3.size); have D4 := newsKeepS (grownOfBelow (allocBelow w3 (.cells #[.string s] 9)) none) (by simp) D3)
              | (refine stepApp rfl (.tmp 33) (.tmp 36) 33 rfl z 9 i0 (.string ByteArray.empty) 1 16 Tryd.underlying33 hi hz0 hz1 hz2 rfl (by decide) (.slice (some ⟨z, 0, none⟩) 0 0) _ _ rfl oAB ⟨g, 0, none⟩ k _ ((l.take k).map Value.string) rfl hlt nAB (oneStr _) (by unfold maxLen; omega) (by omega) zAB ?_; intro v3 w3 p3 g3' _; replace p3 := zadd p3; obtain ⟨va, vc, rfl⟩ := shapeK3 p3; have mkB := p3; have zz3 := g3'.size; have B3 := BAB.grown g3' BAB.size (fun j hj => Nat.le_trans zW (oAB.lt j hj).1); have D3 := newsKeepS g3' (neX oAB) nDB; have nC := oneKept g3' cAB (neS z); have zC := Nat.le_trans zAB zz3)
              | (refine stepApp rfl (.tmp 33) (.tmp 36) 33 rfl z 9 i0 (.string ByteArray.empty) 1 16 Tryd.underlying33 hi hz0 hz1 hz2 rfl (by decide) (.slice (some ⟨z + 1, 0, none⟩) 0 0) _ _ rfl oBA ⟨g, 0, none⟩ k _ ((l.take k).map Value.string) rfl hlt nBA (oneStr _) (by unfold maxLen; omega) (by omega) zBA ?_; intro v3 w3 p3 g3' _; replace p3 := zadd p3; obtain ⟨va, vc, rfl⟩ := shapeK3 p3; have mkC := p3; have zz3 := g3'.size; have B3 := BBA.grown g3' BBA.size (fun j hj => Nat.le_trans zW (oBA.lt j hj).1); have D3 := newsKeepS g3' (neX oBA) nDC; have nE := oneKept g3' cBA (neT z); have zE := Nat.le_trans zBA zz3))
          all_goals
            replace p7 : w7.ownsRow z 9 1 v7 (k + 1 + 0) _ := p7
            obtain ⟨tg, tc, rfl⟩ : ∃ tg tc, v7 = .slice (some ⟨tg, 0, none⟩) (k + 1 + 0) tc := by
              rcases p7.2 with ⟨_, h0⟩ | ⟨tg, tc, cur, e, _⟩
              · omega
              · exact ⟨tg, tc, e⟩
            have e1 : (l.take k ++ s :: l.drop k).length = k + 1 + 0 := by rw [List.length_append, List.length_cons, List.length_take, List.length_drop]; omega
            have HQ : Hid (P9 base (put9 l s) w (.returned (.slice (some ⟨tg, 0, none⟩) (k + 1 + 0) tc)) w7) := by
              rw [HK.out]
              refine ⟨tg, tc, by rw [e1], ?_, B7⟩
              rw [e1]
              have e2 : (l.take k ++ s :: l.drop k).map Value.string = (l.take k).map Value.string ++ [s].map Value.string ++ (l.drop k).map Value.string := by simp
              rw [e2]
              exact ownMonoF p7 (by omega)
            clear p7 g7 p5 g5 p3 g3' B7 B5 B3 e1
            go_wp2
            go_ret
            exact HQ.out
        · have qcc : ¬ (c : Int) = (k : Int) := by omega
          have qcn : ¬ c = k := fun e => hcc e.symm
          have nDA := newsDropS fA k
          have nDB := newsDropS fAB k
          have nDC := newsDropS fBA k
          have hld : ((l.drop k).map Value.string).length = (l.length - k) * 1 := by rw [List.length_map, List.length_drop]; omega
          clear kA kAB kBA fA fAB fBA bA bB bC bD o1 h2 BW2
          go_wp2_with fail
          go_region_law (first
              | (have gd := p5; clear gd; refine stepApp rfl (.tmp 40) (.tmp 43) 33 rfl z 9 i0 (.string ByteArray.empty) 1 16 Tryd.underlying33 hi hz0 hz1 hz2 rfl (by decide) (.slice ua (k + 1) uc) _ _ rfl p5 ⟨g, k, none⟩ (l.length - k) _ ((l.drop k).map Value.string) rfl hld D5 (oneStr _) (by unfold maxLen; omega) (by omega) z5 ?_; intro v7 w7 p7 g7 _; have B7 := B5.grown g7 B5.size (fun j hj => Nat.le_trans zW (p5.lt j hj).1))
              | (have gd := mkA; clear gd; refine stepApp rfl (.tmp 37) (.tmp 39) 33 rfl z 9 i0 (.string ByteArray.empty) 1 16 Tryd.underlying33 hi hz0 hz1 hz2 rfl (by decide) (.slice va k vc) _ _ rfl pB ⟨w3.heap.size, 0, none⟩ 1 1 ([s].map Value.string) rfl rfl nB (oneStr _) (by unfold maxLen; omega) (by omega) zB ?_; intro v5 w5 p5 g5 _; obtain ⟨ua, uc, rfl⟩ := shapeK3 p5; have z5 := Nat.le_trans zB g5.size; have B5 := B4.grown g5 B4.size (fun j hj => Nat.le_trans zW (pB.lt j hj).1); have D5 := newsKeepS g5 (neX pB) D4)
              | (have gd := mkB; clear gd; refine stepApp rfl (.tmp 37) (.tmp 39) 33 rfl z 9 i0 (.string ByteArray.empty) 1 16 Tryd.underlying33 hi hz0 hz1 hz2 rfl (by decide) (.slice va k vc) _ _ rfl p3 ⟨z + 1, 0, none⟩ 1 1 ([s].map Value.string) rfl rfl nC (oneStr _) (by unfold maxLen; omega) (by omega) zC ?_; intro v5 w5 p5 g5 _; obtain ⟨ua, uc, rfl⟩ := shapeK3 p5; have z5 := Nat.le_trans zC g5.size; have B5 := B3.grown g5 B3.size (fun j hj => Nat.le_trans zW (p3.lt j hj).1); have D5 := newsKeepS g5 (neX p3) D3)
              | (have gd := mkC; clear gd; refine stepApp rfl (.tmp 37) (.tmp 39) 33 rfl z 9 i0 (.string ByteArray.empty) 1 16 Tryd.underlying33 hi hz0 hz1 hz2 rfl (by decide) (.slice va k vc) _ _ rfl p3 ⟨z, 0, none⟩ 1 1 ([s].map Value.string) rfl rfl nE (oneStr _) (by unfold maxLen; omega) (by omega) zE ?_; intro v5 w5 p5 g5 _; obtain ⟨ua, uc, rfl⟩ := shapeK3 p5; have z5 := Nat.le_trans zE g5.size; have B5 := B3.grown g5 B3.size (fun j hj => Nat.le_trans zW (p3.lt j hj).1); have D5 := newsKeepS g5 (neX p3) D3)
              | (refine stepApp rfl (.tmp 33) (.tmp 36) 33 rfl z 9 i0 (.string ByteArray.empty) 1 16 Tryd.underlying33 hi hz0 hz1 hz2 rfl (by decide) (.slice (some ⟨z, 0, none⟩) 0 0) _ _ rfl oA ⟨g, 0, none⟩ k _ ((l.take k).map Value.string) rfl hlt nA (oneStr _) (by unfold maxLen; omega) (by omega) zA ?_; intro v3 w3 p3 g3' _; replace p3 := zadd p3; obtain ⟨va, vc, rfl⟩ := shapeK3 p3; have mkA := p3; have zz3 := g3'.size; have B3 := BA.grown g3' BA.size (fun j hj => Nat.le_trans zW (oA.lt j hj).1); have D3 := newsKeepS g3' (neX oA) nDA; have pB := p3.kept (grownOfBelow (allocBelow w3 (.cells #[.string s] 9)) none) (blockCases _ _ fun b c1 c2 => by cases c2); have nB := newT w3 s; have zB : z ≤ (w3.alloc (.cells #[.string s] 9)).heap.size := Nat.le_trans (Nat.le_trans zA zz3) (allocBelow w3 (.cells #[.string s] 9)).size; have B4 := B3.trans ((allocBelow w3 (.cells #[.string s] 9)).mono B3.size); have D4 := newsKeepS (grownOfBelow (allocBelow w3 (.cells #[.string s] 9)) none) (by simp) D3)
              | (refine stepApp rfl (.tmp 33) (.tmp 36) 33 rfl z 9 i0 (.string ByteArray.empty) 1 16 Tryd.underlying33 hi hz0 hz1 hz2 rfl (by decide) (.slice (some ⟨z, 0, none⟩) 0 0) _ _ rfl oAB ⟨g, 0, none⟩ k _ ((l.take k).map Value.string) rfl hlt nAB (oneStr _) (by unfold maxLen; omega) (by omega) zAB ?_; intro v3 w3 p3 g3' _; replace p3 := zadd p3; obtain ⟨va, vc, rfl⟩ := shapeK3 p3; have mkB := p3; have zz3 := g3'.size; have B3 := BAB.grown g3' BAB.size (fun j hj => Nat.le_trans zW (oAB.lt j hj).1); have D3 := newsKeepS g3' (neX oAB) nDB; have nC := oneKept g3' cAB (neS z); have zC := Nat.le_trans zAB zz3)
              | (refine stepApp rfl (.tmp 33) (.tmp 36) 33 rfl z 9 i0 (.string ByteArray.empty) 1 16 Tryd.underlying33 hi hz0 hz1 hz2 rfl (by decide) (.slice (some ⟨z + 1, 0, none⟩) 0 0) _ _ rfl oBA ⟨g, 0, none⟩ k _ ((l.take k).map Value.string) rfl hlt nBA (oneStr _) (by unfold maxLen; omega) (by omega) zBA ?_; intro v3 w3 p3 g3' _; replace p3 := zadd p3; obtain ⟨va, vc, rfl⟩ := shapeK3 p3; have mkC := p3; have zz3 := g3'.size; have B3 := BBA.grown g3' BBA.size (fun j hj => Nat.le_trans zW (oBA.lt j hj).1); have D3 := newsKeepS g3' (neX oBA) nDC; have nE := oneKept g3' cBA (neT z); have zE := Nat.le_trans zBA zz3))
          all_goals
            replace p7 : w7.ownsRow z 9 1 v7 (k + 1 + (l.length - k)) _ := p7
            obtain ⟨tg, tc, rfl⟩ : ∃ tg tc, v7 = .slice (some ⟨tg, 0, none⟩) (k + 1 + (l.length - k)) tc := by
              rcases p7.2 with ⟨_, h0⟩ | ⟨tg, tc, cur, e, _⟩
              · omega
              · exact ⟨tg, tc, e⟩
            have e1 : (l.take k ++ s :: l.drop k).length = k + 1 + (l.length - k) := by rw [List.length_append, List.length_cons, List.length_take, List.length_drop]; omega
            have HQ : Hid (P9 base (put9 l s) w (.returned (.slice (some ⟨tg, 0, none⟩) (k + 1 + (l.length - k)) tc)) w7) := by
              rw [HK.out]
              refine ⟨tg, tc, by rw [e1], ?_, B7⟩
              rw [e1]
              have e2 : (l.take k ++ s :: l.drop k).map Value.string = (l.take k).map Value.string ++ [s].map Value.string ++ (l.drop k).map Value.string := by simp
              rw [e2]
              exact ownMonoF p7 (by omega)
            clear p7 g7 p5 g5 p3 g3' B7 B5 B3 e1
            go_wp2
            go_ret
            exact HQ.out
end Go.Proofs.YtipdebodanhooaaDoor.En
