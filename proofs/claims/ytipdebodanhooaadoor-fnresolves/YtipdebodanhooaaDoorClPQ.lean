/- The contracts of the specification's l9Put, l10Clashes and ClashesIn. No statement is proved here. -/
import Derived.Test.YtipdebodanhooaaDoorRows
import Derived.Test.YtipdebodanhooaaDoorLemQ
import Derived.Test.YtipdebodanhooaaDoorDTabQ
import Derived.Test.YtipdebodanhooaaDoorHkTQ
import Derived.Test.YtipdebodanhooaaDoorWvCQ
import Derived.Test.YtipdebodanhooaaDoorEnLQ
import Derived.Test.YtipdebodanhooaaDoorIxMQ
import Derived.Test.YtipdebodanhooaaDoorIxNQ
import Derived.Test.YtipdebodanhooaaDoorIxIQ
import Derived.Test.YtipdebodanhooaaDoorIxSQ
import Derived.Test.YtipdebodanhooaaDoorSgCQ
import Derived.Test.YtipdebodanhooaaDoorSsBQ
import Derived.Test.YtipdebodanhooaaDoorClIQ
import Derived.WalkKit
import Derived.ProofKit
import Derived.Below
import Derived.WalkSpells
import Derived.Deep.QuietTactic
import Derived.BigQuiet
import Derived.Deep.RegionWith
import Derived.Deep.RegionHeld
import Derived.Deep.CutRange
import Derived.Maps.AppendAt
import Derived.Laws.Cover1
namespace Go.Proofs.YtipdebodanhooaaDoor.En
open Go.ChangeShapes Go.WideShapes Go.ChangeAt Go.RowKit

theorem litT (w : World) : (w.alloc (.cells #[] 9)).ownsRow w.heap.size 9 1 (.slice (some ⟨w.heap.size, 0, none⟩) 0 0) ([] : List ByteArray).length (([] : List ByteArray).map Value.string) := World.ownsRow_lit w #[] 0 (Nat.le_refl _) (Nat.zero_le _) rfl
theorem newsT {w : World} {base g c : Nat} {l : List ByteArray} (h : w.ownsRow base 9 1 (.slice (some ⟨g, 0, none⟩) l.length c) l.length (l.map Value.string)) : ∀ j u, (l.map Value.string)[j]? = some u → w.cell? ((⟨g, 0, none⟩ : Addr).add j) = some u := by
  intro j u hu
  have hj : j < l.length := by have := (List.getElem?_eq_some_iff.1 hu).1; simpa using this
  rw [add_plain, Nat.zero_add, h.cellAt j (by omega)]
  exact hu
theorem nilNews (w : World) (ad : Addr) : ∀ j u, (([] : List ByteArray).map Value.string)[j]? = some u → w.cell? (ad.add j) = some u := fun j u hu => by simp at hu
theorem adz {w : World} {base : Nat} {t : TypeId} {k : Nat} {v : Value} {n : Nat} {xs : List Value} (h : w.ownsRow base t k v (n + 0) (xs ++ [])) : w.ownsRow base t k v n xs := by rw [Nat.add_zero, List.append_nil] at h; exact h
theorem zadd {w : World} {base : Nat} {t : TypeId} {k : Nat} {v : Value} {n : Nat} {xs : List Value} (h : w.ownsRow base t k v (0 + n) ([] ++ xs)) : w.ownsRow base t k v n xs := by rw [Nat.zero_add, List.nil_append] at h; exact h
theorem neS (n : Nat) : some (n + 1) ≠ (Value.slice (some ⟨n, 0, none⟩) 0 0).ownBlock := fun e => by
  have : n + 1 = n := Option.some.inj e
  omega
theorem neT (n : Nat) : some n ≠ (Value.slice (some ⟨n + 1, 0, none⟩) 0 0).ownBlock := fun e => by
  have : n = n + 1 := Option.some.inj e
  omega
/-- One text in a block that an append lets be. -/
theorem oneKept {w w' : World} {b : Nat} {s : ByteArray} {row : Option Nat} (hg : w.grownBy w' row) (hc : w.cell? ⟨b, 0, none⟩ = some (.string s)) (hne : some b ≠ row) : ∀ j u, ([s].map Value.string)[j]? = some u → w'.cell? ((⟨b, 0, none⟩ : Addr).add j) = some u := by
  intro j u hu
  have hj : j = 0 := by have := (List.getElem?_eq_some_iff.1 hu).1; simp at this; omega
  subst hj
  simp only [List.map_cons, List.map_nil, List.getElem?_cons_zero, Option.some.injEq] at hu
  subst hu
  rw [add_plain]
  exact hg.cell hc hne
/-- What l9Put answers: a row that is not nil. -/
def P9 (base : Nat) (L : List ByteArray) (w : World) (e : Ending) (w' : World) : Prop := ∃ g c, e = .returned (.slice (some ⟨g, 0, none⟩) L.length c) ∧ w'.ownsRow base 9 1 (.slice (some ⟨g, 0, none⟩) L.length c) L.length (L.map Value.string) ∧ Below w.heap.size w w'
theorem lessF {x s : ByteArray} (h : 0 ≤ cmB x s) : Op.bytesLess x.toList s.toList = false := by
  cases e : Op.bytesLess x.toList s.toList with
  | false => rfl
  | true => exact absurd (cmB_lt.2 e) (by omega)
set_option maxRecDepth 20000 in
set_option maxHeartbeats 4000000 in
theorem l9PutSame (base g c : Nat) (l : List ByteArray) (s : ByteArray) (w : World) (h : w.ownsRow base 9 1 (.slice (some ⟨g, 0, none⟩) (l ++ [s]).length c) (l ++ [s]).length ((l ++ [s]).map Value.string)) (hn : l.length ≤ 1048570) (hl : LastS l s) :
    Calls Tryd.prog 47 #[.slice (some ⟨g, 0, none⟩) (l ++ [s]).length c, .string s] w fun e w' => P9 base (l ++ [s]) w e w' := by
  obtain ⟨⟨_, hlo, _⟩, _⟩ := sameS_cuts hl
  have e2 : (l ++ [s]).getD l.length ByteArray.empty = s := by simp [List.getD]
  have hLn : l.length < (l ++ [s]).length := by simp
  obtain ⟨L, hL⟩ : ∃ L, l ++ [s] = L := ⟨_, rfl⟩
  rw [hL] at h hlo e2 hLn ⊢
  have hL0 : L.length ≤ 1048571 := by rw [← hL]; simp; omega
  have HL : Hid (∀ k, k < l.length → cmB (L.getD k ByteArray.empty) s < 0) := hlo
  clear hlo hL hl
  have hss := beq_bytes_true (rfl : s = s)
  have hls := byL_irr s.toList
  go_enter Tryd.func47, Tryd.ntmps47
  go_wp2
  go_loopw [5] (fun vi wr => ∃ k : Nat, k ≤ l.length ∧ vi = .int .i64 k ∧ ∃ n, wr = w.drewN n) (fun vi _ => L.length - (intOf vi).toNat)
  case atStart => exact ⟨0, Nat.zero_le _, rfl, 0, rfl⟩
  case round =>
    obtain ⟨k, hk, rfl, nr, hwr⟩ := hrel
    have qk : (k : Int) < (L.length : Int) := by omega
    obtain ⟨g', eg, cg, _⟩ := rowS h k (by omega)
    simp only [Option.some.injEq, Addr.mk.injEq, and_true] at eg
    subst eg
    have cg' : wr.cell? ⟨g, k, none⟩ = some (.string (L.getD k ByteArray.empty)) := by rw [hwr]; exact cg
    have HW : Hid (wr = w.drewN nr) := hwr
    clear hwr cg
    by_cases hlt : k < l.length
    · have hle := cmB_lt.1 (HL.out k hlt)
      obtain ⟨X, hX⟩ : ∃ X, L.getD k ByteArray.empty = X := ⟨_, rfl⟩
      rw [hX] at cg' hle
      clear hX HL
      go_wp2
      first | skip | (go_quiet (fail); go_wp2)
      go_roundw
      case rel => exact ⟨k + 1, by omega, by go_num, _, by first | exact HW.out | rw [HW.out, World.drewN_drewN]⟩
      case measure => simp [intOf]; omega
    · have ek : k = l.length := by omega
      rw [ek, e2] at cg'
      have HF : Hid (P9 base L w (.returned (.slice (some ⟨g, 0, none⟩) L.length c)) wr) := ⟨g, c, rfl, by rw [HW.out]; exact h, by rw [HW.out]; exact below_drewN' (Below.refl _ _) _⟩
      rw [ek] at qk ⊢
      clear HL h ek hlt
      go_wp2
      go_ret
      exact HF.out
set_option maxRecDepth 20000 in
set_option maxHeartbeats 4000000 in
theorem l9PutEnd (base g c : Nat) (l : List ByteArray) (s : ByteArray) (w : World) (h : w.ownsRow base 9 1 (.slice (some ⟨g, 0, none⟩) l.length c) l.length (l.map Value.string)) (hn : l.length ≤ 1048570) (hl : LastS l s) (hbase : base ≤ w.heap.size) :
    Calls Tryd.prog 47 #[.slice (some ⟨g, 0, none⟩) l.length c, .string s] w fun e w' => P9 base (l ++ [s]) w e w' := by
  have HL : Hid (∀ k, k < l.length → cmB (l.getD k ByteArray.empty) s < 0) := hl
  have hcap : l.length ≤ c := by
    rcases h.2 with ⟨h', h0⟩ | ⟨b, cap, cur, h', _, _, h1, _⟩
    · cases h'
    · simp only [Value.slice.injEq] at h'
      obtain ⟨_, _, rfl⟩ := h'
      exact h1
  clear hl
  go_enter Tryd.func47, Tryd.ntmps47
  go_wp2
  go_loopw [5] (fun vi wr => ∃ k : Nat, k ≤ l.length ∧ vi = .int .i64 k ∧ ∃ n, wr = w.drewN n) (fun vi _ => l.length - (intOf vi).toNat)
  case atStart => exact ⟨0, Nat.zero_le _, rfl, 0, rfl⟩
  case round =>
    obtain ⟨k, hk, rfl, nr, hwr⟩ := hrel
    by_cases hlt : k < l.length
    · have qk : (k : Int) < (l.length : Int) := by omega
      obtain ⟨g', eg, cg, _⟩ := rowS h k hlt
      simp only [Option.some.injEq, Addr.mk.injEq, and_true] at eg
      subst eg
      have cg' : wr.cell? ⟨g, k, none⟩ = some (.string (l.getD k ByteArray.empty)) := by rw [hwr]; exact cg
      have HW : Hid (wr = w.drewN nr) := hwr
      have hle := cmB_lt.1 (HL.out k hlt)
      obtain ⟨X, hX⟩ : ∃ X, l.getD k ByteArray.empty = X := ⟨_, rfl⟩
      rw [hX] at cg' hle
      clear hX HL hwr cg
      go_wp2
      first | skip | (go_quiet (fail); go_wp2)
      go_roundw
      case rel => exact ⟨k + 1, by omega, by go_num, _, by first | exact HW.out | rw [HW.out, World.drewN_drewN]⟩
      case measure => simp [intOf]; omega
    · have ek : k = l.length := by omega
      subst ek
      have qk : ¬ (l.length : Int) < (l.length : Int) := by omega
      have h1 : wr.ownsRow base 9 1 (.slice (some ⟨g, 0, none⟩) l.length c) l.length (l.map Value.string) := by rw [hwr]; exact h
      have BW : Below w.heap.size w wr := by rw [hwr]; exact below_drewN' (Below.refl _ _) _
      have zW : w.heap.size ≤ wr.heap.size := BW.size
      have bA := allocBelow wr (.cells #[] 9)
      have o1 := litT wr
      have n1 := newsT (h1.kept (grownOfBelow bA none) (blockCases _ _ fun b c1 c2 => by cases c2))
      clear HL h hwr hlt hk
      obtain ⟨i0, hi, hz0, hz1, hz2⟩ := info_parts strInfo
      have zA : wr.heap.size < (wr.alloc (.cells #[] 9)).heap.size := by simp
      have zAB : wr.heap.size < ((wr.alloc (.cells #[] 9)).alloc (.cells #[.string s] 9)).heap.size := by simp; omega
      have zBA : wr.heap.size < ((wr.alloc (.cells #[.string s] 9)).alloc (.cells #[] 9)).heap.size := by simp; omega
      have oA : (wr.alloc (.cells #[] 9)).drew.ownsRow wr.heap.size 9 1 (.slice (some ⟨wr.heap.size, 0, none⟩) 0 0) 0 [] := o1
      have nA : ∀ j u, (l.map Value.string)[j]? = some u → (wr.alloc (.cells #[] 9)).drew.cell? ((⟨g, 0, none⟩ : Addr).add j) = some u := n1
      have bB := allocBelow (wr.alloc (.cells #[] 9)) (.cells #[.string s] 9)
      have oAB : ((wr.alloc (.cells #[] 9)).alloc (.cells #[.string s] 9)).drew.ownsRow wr.heap.size 9 1 (.slice (some ⟨wr.heap.size, 0, none⟩) 0 0) 0 [] := (o1.kept (grownOfBelow bB none) (blockCases _ _ fun b c1 c2 => by cases c2)).drew
      have nAB : ∀ j u, (l.map Value.string)[j]? = some u → ((wr.alloc (.cells #[] 9)).alloc (.cells #[.string s] 9)).drew.cell? ((⟨g, 0, none⟩ : Addr).add j) = some u := newsT ((h1.kept (grownOfBelow bA none) (blockCases _ _ fun b c1 c2 => by cases c2)).kept (grownOfBelow bB none) (blockCases _ _ fun b c1 c2 => by cases c2)).drew
      have cAB : ((wr.alloc (.cells #[] 9)).alloc (.cells #[.string s] 9)).drew.cell? ⟨wr.heap.size + 1, 0, none⟩ = some (.string s) := by
        have q := Rs.new (wr.alloc (.cells #[] 9)) #[.string s] 9 0 _ rfl
        rw [World.size_alloc] at q
        exact q
      have bC := allocBelow wr (.cells #[.string s] 9)
      have bD := allocBelow (wr.alloc (.cells #[.string s] 9)) (.cells #[] 9)
      have oBA : ((wr.alloc (.cells #[.string s] 9)).alloc (.cells #[] 9)).drew.ownsRow wr.heap.size 9 1 (.slice (some ⟨wr.heap.size + 1, 0, none⟩) 0 0) 0 [] := by
        have q := litT (wr.alloc (.cells #[.string s] 9))
        rw [World.size_alloc] at q
        exact ownMonoF q (by omega)
      have nBA : ∀ j u, (l.map Value.string)[j]? = some u → ((wr.alloc (.cells #[.string s] 9)).alloc (.cells #[] 9)).drew.cell? ((⟨g, 0, none⟩ : Addr).add j) = some u := newsT ((h1.kept (grownOfBelow bC none) (blockCases _ _ fun b c1 c2 => by cases c2)).kept (grownOfBelow bD none) (blockCases _ _ fun b c1 c2 => by cases c2)).drew
      have cBA : ((wr.alloc (.cells #[.string s] 9)).alloc (.cells #[] 9)).drew.cell? ⟨wr.heap.size, 0, none⟩ = some (.string s) := (Fr.ofBelow (lo := 0) (hi := 0) bD).cell (Rs.new wr #[.string s] 9 0 _ rfl) (.inr (Nat.zero_le _))
      have BA : Below w.heap.size w (wr.alloc (.cells #[] 9)).drew := (BW.trans (bA.mono zW)).drew
      have BAB : Below w.heap.size w ((wr.alloc (.cells #[] 9)).alloc (.cells #[.string s] 9)).drew := ((BW.trans (bA.mono zW)).trans (bB.mono (by simp; omega))).drew
      have BBA : Below w.heap.size w ((wr.alloc (.cells #[.string s] 9)).alloc (.cells #[] 9)).drew := ((BW.trans (bC.mono zW)).trans (bD.mono (by simp; omega))).drew
      clear o1 n1 bA bB bC bD h1 BW
      by_cases hcc : c = l.length
      · subst hcc
        go_wp2_with fail
        go_region_law (first
          | (have gd := p5; clear gd; refine stepApp rfl (.tmp 40) (.tmp 43) 33 rfl wr.heap.size 9 i0 (.string ByteArray.empty) 1 16 Tryd.underlying33 hi hz0 hz1 hz2 rfl (by decide) (.slice ua (l.length + 1) uc) _ _ rfl p5 ⟨g, 0, none⟩ 0 _ (([] : List ByteArray).map Value.string) rfl rfl (nilNews _ _) (oneStr _) (by unfold maxLen; omega) (by omega) (z5) ?_; intro v7 w7 p7 g7 _; have B7 := B5.grown g7 B5.size (fun j hj => Nat.le_trans zW (p5.lt j hj).1))
          | (have gd := mkA; clear gd; refine stepApp rfl (.tmp 37) (.tmp 39) 33 rfl wr.heap.size 9 i0 (.string ByteArray.empty) 1 16 Tryd.underlying33 hi hz0 hz1 hz2 rfl (by decide) (.slice va l.length vc) _ _ rfl pB ⟨w3.heap.size, 0, none⟩ 1 1 ([s].map Value.string) rfl rfl nB (oneStr _) (by unfold maxLen; omega) (by omega) (zB) ?_; intro v5 w5 p5 g5 _; obtain ⟨ua, uc, rfl⟩ := shapeK3 p5; have z5 := Nat.le_trans zB g5.size; have B5 := B4.grown g5 B4.size (fun j hj => Nat.le_trans zW (pB.lt j hj).1))
          | (have gd := mkB; clear gd; refine stepApp rfl (.tmp 37) (.tmp 39) 33 rfl wr.heap.size 9 i0 (.string ByteArray.empty) 1 16 Tryd.underlying33 hi hz0 hz1 hz2 rfl (by decide) (.slice va l.length vc) _ _ rfl p3 ⟨wr.heap.size + 1, 0, none⟩ 1 1 ([s].map Value.string) rfl rfl nC (oneStr _) (by unfold maxLen; omega) (by omega) (zC) ?_; intro v5 w5 p5 g5 _; obtain ⟨ua, uc, rfl⟩ := shapeK3 p5; have z5 := Nat.le_trans zC g5.size; have B5 := B3.grown g5 B3.size (fun j hj => Nat.le_trans zW (p3.lt j hj).1))
          | (have gd := mkC; clear gd; refine stepApp rfl (.tmp 37) (.tmp 39) 33 rfl wr.heap.size 9 i0 (.string ByteArray.empty) 1 16 Tryd.underlying33 hi hz0 hz1 hz2 rfl (by decide) (.slice va l.length vc) _ _ rfl p3 ⟨wr.heap.size, 0, none⟩ 1 1 ([s].map Value.string) rfl rfl nD (oneStr _) (by unfold maxLen; omega) (by omega) (zD) ?_; intro v5 w5 p5 g5 _; obtain ⟨ua, uc, rfl⟩ := shapeK3 p5; have z5 := Nat.le_trans zD g5.size; have B5 := B3.grown g5 B3.size (fun j hj => Nat.le_trans zW (p3.lt j hj).1))
          | (refine stepApp rfl (.tmp 33) (.tmp 36) 33 rfl wr.heap.size 9 i0 (.string ByteArray.empty) 1 16 Tryd.underlying33 hi hz0 hz1 hz2 rfl (by decide) (.slice (some ⟨wr.heap.size, 0, none⟩) 0 0) _ _ rfl oA ⟨g, 0, none⟩ l.length l.length (l.map Value.string) rfl (by simp) nA (oneStr _) (by unfold maxLen; omega) (by omega) (Nat.le_of_lt zA) ?_; intro v3 w3 p3 g3 _; replace p3 := zadd p3; obtain ⟨va, vc, rfl⟩ := shapeK3 p3; have mkA := p3; have B3 := BA.grown g3 BA.size (fun j hj => Nat.le_trans zW (oA.lt j hj).1); have zz3 := g3.size; have pB := p3.kept (grownOfBelow (allocBelow w3 (.cells #[.string s] 9)) none) (blockCases _ _ fun b c1 c2 => by cases c2); have nB := newT w3 s; have zB : wr.heap.size ≤ (w3.alloc (.cells #[.string s] 9)).heap.size := Nat.le_trans (Nat.le_trans (Nat.le_of_lt zA) zz3) (allocBelow w3 (.cells #[.string s] 9)).size; have B4 := B3.trans ((allocBelow w3 (.cells #[.string s] 9)).mono B3.size))
          | (refine stepApp rfl (.tmp 33) (.tmp 36) 33 rfl wr.heap.size 9 i0 (.string ByteArray.empty) 1 16 Tryd.underlying33 hi hz0 hz1 hz2 rfl (by decide) (.slice (some ⟨wr.heap.size, 0, none⟩) 0 0) _ _ rfl oAB ⟨g, 0, none⟩ l.length l.length (l.map Value.string) rfl (by simp) nAB (oneStr _) (by unfold maxLen; omega) (by omega) (Nat.le_of_lt zAB) ?_; intro v3 w3 p3 g3 _; replace p3 := zadd p3; obtain ⟨va, vc, rfl⟩ := shapeK3 p3; have mkB := p3; have B3 := BAB.grown g3 BAB.size (fun j hj => Nat.le_trans zW (oAB.lt j hj).1); have nC := oneKept g3 cAB (neS _); have zC := Nat.le_trans (Nat.le_of_lt zAB) g3.size)
          | (refine stepApp rfl (.tmp 33) (.tmp 36) 33 rfl wr.heap.size 9 i0 (.string ByteArray.empty) 1 16 Tryd.underlying33 hi hz0 hz1 hz2 rfl (by decide) (.slice (some ⟨wr.heap.size + 1, 0, none⟩) 0 0) _ _ rfl oBA ⟨g, 0, none⟩ l.length l.length (l.map Value.string) rfl (by simp) nBA (oneStr _) (by unfold maxLen; omega) (by omega) (Nat.le_of_lt zBA) ?_; intro v3 w3 p3 g3 _; replace p3 := zadd p3; obtain ⟨va, vc, rfl⟩ := shapeK3 p3; have mkC := p3; have B3 := BBA.grown g3 BBA.size (fun j hj => Nat.le_trans zW (oBA.lt j hj).1); have nD := oneKept g3 cBA (neT _); have zD := Nat.le_trans (Nat.le_of_lt zBA) g3.size))
        all_goals
          replace p7 := adz p7
          obtain ⟨ta, tc, rfl⟩ := shapeK3 p7
          obtain ⟨gg, rfl⟩ : ∃ gg, ta = some ⟨gg, 0, none⟩ := by
            rcases p7.2 with ⟨h', h0⟩ | ⟨b, cap, cur, h', _⟩
            · omega
            · simp only [Value.slice.injEq] at h'
              exact ⟨b, h'.1⟩
          have HF : Hid (P9 base (l ++ [s]) w (.returned (.slice (some ⟨gg, 0, none⟩) (l.length + 1) tc)) w7) := ⟨gg, tc, by simp, by simpa using ownMonoF p7 (b := base) (by omega), B7⟩
          clear p7 g7
          go_wp2
          go_ret
          exact HF.out
      · have qc : ¬ (l.length : Int) = (c : Int) := by omega
        have qc2 : (l.length : Int) ≤ (c : Int) := by omega
        go_wp2_with fail
        go_region_law (first
          | (have gd := p5; clear gd; refine stepApp rfl (.tmp 40) (.tmp 43) 33 rfl wr.heap.size 9 i0 (.string ByteArray.empty) 1 16 Tryd.underlying33 hi hz0 hz1 hz2 rfl (by decide) (.slice ua (l.length + 1) uc) _ _ rfl p5 ⟨g, l.length, none⟩ 0 _ (([] : List ByteArray).map Value.string) rfl rfl (nilNews _ _) (oneStr _) (by unfold maxLen; omega) (by omega) (z5) ?_; intro v7 w7 p7 g7 _; have B7 := B5.grown g7 B5.size (fun j hj => Nat.le_trans zW (p5.lt j hj).1))
          | (have gd := mkA; clear gd; refine stepApp rfl (.tmp 37) (.tmp 39) 33 rfl wr.heap.size 9 i0 (.string ByteArray.empty) 1 16 Tryd.underlying33 hi hz0 hz1 hz2 rfl (by decide) (.slice va l.length vc) _ _ rfl pB ⟨w3.heap.size, 0, none⟩ 1 1 ([s].map Value.string) rfl rfl nB (oneStr _) (by unfold maxLen; omega) (by omega) (zB) ?_; intro v5 w5 p5 g5 _; obtain ⟨ua, uc, rfl⟩ := shapeK3 p5; have z5 := Nat.le_trans zB g5.size; have B5 := B4.grown g5 B4.size (fun j hj => Nat.le_trans zW (pB.lt j hj).1))
          | (have gd := mkB; clear gd; refine stepApp rfl (.tmp 37) (.tmp 39) 33 rfl wr.heap.size 9 i0 (.string ByteArray.empty) 1 16 Tryd.underlying33 hi hz0 hz1 hz2 rfl (by decide) (.slice va l.length vc) _ _ rfl p3 ⟨wr.heap.size + 1, 0, none⟩ 1 1 ([s].map Value.string) rfl rfl nC (oneStr _) (by unfold maxLen; omega) (by omega) (zC) ?_; intro v5 w5 p5 g5 _; obtain ⟨ua, uc, rfl⟩ := shapeK3 p5; have z5 := Nat.le_trans zC g5.size; have B5 := B3.grown g5 B3.size (fun j hj => Nat.le_trans zW (p3.lt j hj).1))
          | (have gd := mkC; clear gd; refine stepApp rfl (.tmp 37) (.tmp 39) 33 rfl wr.heap.size 9 i0 (.string ByteArray.empty) 1 16 Tryd.underlying33 hi hz0 hz1 hz2 rfl (by decide) (.slice va l.length vc) _ _ rfl p3 ⟨wr.heap.size, 0, none⟩ 1 1 ([s].map Value.string) rfl rfl nD (oneStr _) (by unfold maxLen; omega) (by omega) (zD) ?_; intro v5 w5 p5 g5 _; obtain ⟨ua, uc, rfl⟩ := shapeK3 p5; have z5 := Nat.le_trans zD g5.size; have B5 := B3.grown g5 B3.size (fun j hj => Nat.le_trans zW (p3.lt j hj).1))
          | (refine stepApp rfl (.tmp 33) (.tmp 36) 33 rfl wr.heap.size 9 i0 (.string ByteArray.empty) 1 16 Tryd.underlying33 hi hz0 hz1 hz2 rfl (by decide) (.slice (some ⟨wr.heap.size, 0, none⟩) 0 0) _ _ rfl oA ⟨g, 0, none⟩ l.length c (l.map Value.string) rfl (by simp) nA (oneStr _) (by unfold maxLen; omega) (by omega) (Nat.le_of_lt zA) ?_; intro v3 w3 p3 g3 _; replace p3 := zadd p3; obtain ⟨va, vc, rfl⟩ := shapeK3 p3; have mkA := p3; have B3 := BA.grown g3 BA.size (fun j hj => Nat.le_trans zW (oA.lt j hj).1); have zz3 := g3.size; have pB := p3.kept (grownOfBelow (allocBelow w3 (.cells #[.string s] 9)) none) (blockCases _ _ fun b c1 c2 => by cases c2); have nB := newT w3 s; have zB : wr.heap.size ≤ (w3.alloc (.cells #[.string s] 9)).heap.size := Nat.le_trans (Nat.le_trans (Nat.le_of_lt zA) zz3) (allocBelow w3 (.cells #[.string s] 9)).size; have B4 := B3.trans ((allocBelow w3 (.cells #[.string s] 9)).mono B3.size))
          | (refine stepApp rfl (.tmp 33) (.tmp 36) 33 rfl wr.heap.size 9 i0 (.string ByteArray.empty) 1 16 Tryd.underlying33 hi hz0 hz1 hz2 rfl (by decide) (.slice (some ⟨wr.heap.size, 0, none⟩) 0 0) _ _ rfl oAB ⟨g, 0, none⟩ l.length c (l.map Value.string) rfl (by simp) nAB (oneStr _) (by unfold maxLen; omega) (by omega) (Nat.le_of_lt zAB) ?_; intro v3 w3 p3 g3 _; replace p3 := zadd p3; obtain ⟨va, vc, rfl⟩ := shapeK3 p3; have mkB := p3; have B3 := BAB.grown g3 BAB.size (fun j hj => Nat.le_trans zW (oAB.lt j hj).1); have nC := oneKept g3 cAB (neS _); have zC := Nat.le_trans (Nat.le_of_lt zAB) g3.size)
          | (refine stepApp rfl (.tmp 33) (.tmp 36) 33 rfl wr.heap.size 9 i0 (.string ByteArray.empty) 1 16 Tryd.underlying33 hi hz0 hz1 hz2 rfl (by decide) (.slice (some ⟨wr.heap.size + 1, 0, none⟩) 0 0) _ _ rfl oBA ⟨g, 0, none⟩ l.length c (l.map Value.string) rfl (by simp) nBA (oneStr _) (by unfold maxLen; omega) (by omega) (Nat.le_of_lt zBA) ?_; intro v3 w3 p3 g3 _; replace p3 := zadd p3; obtain ⟨va, vc, rfl⟩ := shapeK3 p3; have mkC := p3; have B3 := BBA.grown g3 BBA.size (fun j hj => Nat.le_trans zW (oBA.lt j hj).1); have nD := oneKept g3 cBA (neT _); have zD := Nat.le_trans (Nat.le_of_lt zBA) g3.size))
        all_goals
          replace p7 := adz p7
          obtain ⟨ta, tc, rfl⟩ := shapeK3 p7
          obtain ⟨gg, rfl⟩ : ∃ gg, ta = some ⟨gg, 0, none⟩ := by
            rcases p7.2 with ⟨h', h0⟩ | ⟨b, cap, cur, h', _⟩
            · omega
            · simp only [Value.slice.injEq] at h'
              exact ⟨b, h'.1⟩
          have HF : Hid (P9 base (l ++ [s]) w (.returned (.slice (some ⟨gg, 0, none⟩) (l.length + 1) tc)) w7) := ⟨gg, tc, by simp, by simpa using ownMonoF p7 (b := base) (by omega), B7⟩
          clear p7 g7
          go_wp2
          go_ret
          exact HF.out
end Go.Proofs.YtipdebodanhooaaDoor.En
