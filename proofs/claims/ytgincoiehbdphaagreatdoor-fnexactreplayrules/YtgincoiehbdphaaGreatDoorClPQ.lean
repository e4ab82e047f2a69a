/- The contracts of the specification's l9Put, l10Clashes and ClashesIn. No statement is proved here. -/
import Derived.Test.YtgincoiehbdphaaGreatDoorSwMQ
namespace Go.Proofs.YtgincoiehbdphaaGreatDoor.En
open Go.ChangeShapes Go.WideShapes Go.ChangeAt Go.RowKit
theorem litT (w : World) : (w.alloc (.cells #[] 9)).ownsRow w.heap.size 9 1 (.slice (some ⟨w.heap.size, 0, none⟩) 0 0) ([] : List ByteArray).length (([] : List ByteArray).map Value.string) := World.ownsRow_lit w #[] 0 (Nat.le_refl _) (Nat.zero_le _) rfl
theorem newsT {w : World} {base g c : Nat} {l : List ByteArray} (h : w.ownsRow base 9 1 (.slice (some ⟨g, 0, none⟩) l.length c) l.length (l.map Value.string)) : ∀ j u, (l.map Value.string)[j]? = some u -> w.cell? ((⟨g, 0, none⟩ : Addr).add j) = some u := by
 intro j u hu
 have hj : j < l.length := by have := (List.getElem?_eq_some_iff.1 hu).1; simpa using this
 rw [add_plain, Nat.zero_add, h.cellAt j (by omega)]
 exact hu
theorem nilNews (w : World) (ad : Addr) : ∀ j u, (([] : List ByteArray).map Value.string)[j]? = some u -> w.cell? (ad.add j) = some u := fun j u hu => by simp at hu
theorem adz {w : World} {base : Nat} {t : TypeId} {k : Nat} {v : Value} {n : Nat} {xs : List Value} (h : w.ownsRow base t k v (n + 0) (xs ++ [])) : w.ownsRow base t k v n xs := by rw [Nat.add_zero, List.append_nil] at h; exact h
theorem zadd {w : World} {base : Nat} {t : TypeId} {k : Nat} {v : Value} {n : Nat} {xs : List Value} (h : w.ownsRow base t k v (0 + n) ([] ++ xs)) : w.ownsRow base t k v n xs := by rw [Nat.zero_add, List.nil_append] at h; exact h
theorem neS (n : Nat) : some (n + 1) ≠ (Value.slice (some ⟨n, 0, none⟩) 0 0).ownBlock := fun e => by
 have : n + 1 = n := Option.some.inj e
 omega
theorem neT (n : Nat) : some n ≠ (Value.slice (some ⟨n + 1, 0, none⟩) 0 0).ownBlock := fun e => by
 have : n = n + 1 := Option.some.inj e
 omega
theorem oneKept {w w' : World} {b : Nat} {s : ByteArray} {row : Option Nat} (hg : w.grownBy w' row) (hc : w.cell? ⟨b, 0, none⟩ = some (.string s)) (hne : some b ≠ row) : ∀ j u, ([s].map Value.string)[j]? = some u -> w'.cell? ((⟨b, 0, none⟩ : Addr).add j) = some u := by
 intro j u hu
 have hj : j = 0 := by have := (List.getElem?_eq_some_iff.1 hu).1; simp at this; omega
 subst hj
 simp only [List.map_cons, List.map_nil, List.getElem?_cons_zero, Option.some.injEq] at hu
 subst hu
 rw [add_plain]
 exact hg.cell hc hne
def P9 (base : Nat) (L : List ByteArray) (w : World) (e : Ending) (w' : World) : Prop := ∃ g c, e = .returned (.slice (some ⟨g, 0, none⟩) L.length c) /\ w'.ownsRow base 9 1 (.slice (some ⟨g, 0, none⟩) L.length c) L.length (L.map Value.string) /\ Below w.heap.size w w'
set_option maxRecDepth 20000 in
set_option maxHeartbeats 4000000 in
theorem l9PutSame (base g c : Nat) (l : List ByteArray) (s : ByteArray) (w : World) (h : w.ownsRow base 9 1 (.slice (some ⟨g, 0, none⟩) (l ++ [s]).length c) (l ++ [s]).length ((l ++ [s]).map Value.string)) (hn : l.length <= 1048570) (hl : LastS l s) :
  Calls Tryz.prog 100 #[.slice (some ⟨g, 0, none⟩) (l ++ [s]).length c, .string s] w fun e w' => P9 base (l ++ [s]) w e w' := by
 obtain ⟨⟨_, hlo, _⟩, _⟩ := sameS_cuts hl
 have e2 : (l ++ [s]).getD l.length ByteArray.empty = s := by simp [List.getD]
 have hLn : l.length < (l ++ [s]).length := by simp
 obtain ⟨L, hL⟩ : ∃ L, l ++ [s] = L := ⟨_, rfl⟩
 rw [hL] at h hlo e2 hLn ⊢
 have hL0 : L.length <= 1048571 := by rw [<- hL]; simp; omega
 have HL : Hid (∀ k, k < l.length -> cmB (L.getD k ByteArray.empty) s < 0) := hlo
 clear hlo hL hl
 have hss := beq_bytes_true (rfl : s = s)
 have hls := byL_irr s.toList
 go_enter Tryz.func100, Tryz.ntmps100
 go_wp2
 go_loopw [5] (fun vi wr => ∃ k : Nat, k <= l.length /\ vi = .int .i64 k /\ ∃ n, wr = w.drewN n) (fun vi _ => L.length - (intOf vi).toNat)
 case atStart => exact ⟨0, Nat.zero_le _, rfl, 0, rfl⟩
 case round =>
  obtain ⟨k, hk, rfl, nr, hwr⟩ := hrel
  have qk : (k : Int) < (L.length : Int) := by omega
  obtain ⟨g', eg, cg, _⟩ := rowS h k (by omega)
  simp only [Option.some.injEq, Addr.mk.injEq, and_true] at eg
  subst eg
  have cg' : wr.cell? ⟨g, k, none⟩ = some (.string (L.getD k ByteArray.empty)) := by rw [hwr]; exact cg
  have HW : Hid (wr = w.drewN nr) := hwr
  clear hwr cg
  by_cases hlt : k < l.length
  ·have hle := cmB_lt.1 (HL.out k hlt)
   obtain ⟨X, hX⟩ : ∃ X, L.getD k ByteArray.empty = X := ⟨_, rfl⟩
   rw [hX] at cg' hle
   clear hX HL
   go_wp2
   first | skip | (go_quiet (fail); go_wp2)
   go_roundw
   case rel => exact ⟨k + 1, by omega, by go_num, _, by first | exact HW.out | rw [HW.out, World.drewN_drewN]⟩
   case measure => simp [intOf]; omega
  ·have ek : k = l.length := by omega
   rw [ek, e2] at cg'
   have HF : Hid (P9 base L w (.returned (.slice (some ⟨g, 0, none⟩) L.length c)) wr) := ⟨g, c, rfl, by rw [HW.out]; exact h, by rw [HW.out]; exact below_drewN' (Below.refl _ _) _⟩
   rw [ek] at qk ⊢
   clear HL h ek hlt
   go_wp2
   go_ret
   exact HF.out
set_option maxRecDepth 20000 in
set_option maxHeartbeats 4000000 in
theorem l9PutEnd (base g c : Nat) (l : List ByteArray) (s : ByteArray) (w : World) (h : w.ownsRow base 9 1 (.slice (some ⟨g, 0, none⟩) l.length c) l.length (l.map Value.string)) (hn : l.length <= 1048570) (hl : LastS l s) (hbase : base <= w.heap.size) :
  Calls Tryz.prog 100 #[.slice (some ⟨g, 0, none⟩) l.length c, .string s] w fun e w' => P9 base (l ++ [s]) w e w' := by
 have HL : Hid (∀ k, k < l.length -> cmB (l.getD k ByteArray.empty) s < 0) := hl
 have hcap : l.length <= c := by
  rcases h.2 with ⟨h', h0⟩ | ⟨b, cap, cur, h', _, _, h1, _⟩
  ·cases h'
  ·simp only [Value.slice.injEq] at h'
   obtain ⟨_, _, rfl⟩ := h'
   exact h1
 clear hl
 go_enter Tryz.func100, Tryz.ntmps100
 go_wp2
 go_loopw [5] (fun vi wr => ∃ k : Nat, k <= l.length /\ vi = .int .i64 k /\ ∃ n, wr = w.drewN n) (fun vi _ => l.length - (intOf vi).toNat)
 case atStart => exact ⟨0, Nat.zero_le _, rfl, 0, rfl⟩
 case round =>
  obtain ⟨k, hk, rfl, nr, hwr⟩ := hrel
  by_cases hlt : k < l.length
  ·have qk : (k : Int) < (l.length : Int) := by omega
   obtain ⟨g', eg, cg, _⟩ := rowS h k hlt
   simp only [Option.some.injEq, Addr.mk.injEq, and_true] at eg
   subst eg
   have cg' : wr.cell? ⟨g, k, none⟩ = some (.string (l.getD k ByteArray.empty)) := by rw [hwr]; exact cg
   have HW : Hid (wr = w.drewN nr) := hwr
   have hle := cmB_lt.1 (HL.out k hlt)
   obtain ⟨X, hX⟩ : ∃ X, l.getD k ByteArray.empty = X := ⟨_, rfl⟩
   rw [hX] at cg' hle
   clear hX HL hwr cg
   go_wp2
   first | skip | (go_quiet (fail); go_wp2)
   go_roundw
   case rel => exact ⟨k + 1, by omega, by go_num, _, by first | exact HW.out | rw [HW.out, World.drewN_drewN]⟩
   case measure => simp [intOf]; omega
  ·have ek : k = l.length := by omega
   subst ek
   have qk : ¬ (l.length : Int) < (l.length : Int) := by omega
   have h1 : wr.ownsRow base 9 1 (.slice (some ⟨g, 0, none⟩) l.length c) l.length (l.map Value.string) := by rw [hwr]; exact h
   have BW : Below w.heap.size w wr := by rw [hwr]; exact below_drewN' (Below.refl _ _) _
   have zW : w.heap.size <= wr.heap.size := BW.size
   have bA := allocBelow wr (.cells #[] 9)
   have o1 := litT wr
   have n1 := newsT (h1.kept (grownOfBelow bA none) (blockCases _ _ fun b c1 c2 => by cases c2))
   clear HL h hwr hlt hk
   obtain ⟨i0, hi, hz0, hz1, hz2⟩ := info_parts strInfo
   have zA : wr.heap.size < (wr.alloc (.cells #[] 9)).heap.size := by simp
   have zAB : wr.heap.size < ((wr.alloc (.cells #[] 9)).alloc (.cells #[.string s] 9)).heap.size := by simp; omega
   have zBA : wr.heap.size < ((wr.alloc (.cells #[.string s] 9)).alloc (.cells #[] 9)).heap.size := by simp; omega
   have oA : (wr.alloc (.cells #[] 9)).drew.ownsRow wr.heap.size 9 1 (.slice (some ⟨wr.heap.size, 0, none⟩) 0 0) 0 [] := o1
   have nA : ∀ j u, (l.map Value.string)[j]? = some u -> (wr.alloc (.cells #[] 9)).drew.cell? ((⟨g, 0, none⟩ : Addr).add j) = some u := n1
   have bB := allocBelow (wr.alloc (.cells #[] 9)) (.cells #[.string s] 9)
   have oAB : ((wr.alloc (.cells #[] 9)).alloc (.cells #[.string s] 9)).drew.ownsRow wr.heap.size 9 1 (.slice (some ⟨wr.heap.size, 0, none⟩) 0 0) 0 [] := (o1.kept (grownOfBelow bB none) (blockCases _ _ fun b c1 c2 => by cases c2)).drew
   have nAB : ∀ j u, (l.map Value.string)[j]? = some u -> ((wr.alloc (.cells #[] 9)).alloc (.cells #[.string s] 9)).drew.cell? ((⟨g, 0, none⟩ : Addr).add j) = some u := newsT ((h1.kept (grownOfBelow bA none) (blockCases _ _ fun b c1 c2 => by cases c2)).kept (grownOfBelow bB none) (blockCases _ _ fun b c1 c2 => by cases c2)).drew
   have cAB : ((wr.alloc (.cells #[] 9)).alloc (.cells #[.string s] 9)).drew.cell? ⟨wr.heap.size + 1, 0, none⟩ = some (.string s) := by
    have q := Rs.new (wr.alloc (.cells #[] 9)) #[.string s] 9 0 _ rfl
    rw [World.size_alloc] at q
    exact q
   have bC := allocBelow wr (.cells #[.string s] 9)
   have bD := allocBelow (wr.alloc (.cells #[.string s] 9)) (.cells #[] 9)
   have oBA : ((wr.alloc (.cells #[.string s] 9)).alloc (.cells #[] 9)).drew.ownsRow wr.heap.size 9 1 (.slice (some ⟨wr.heap.size + 1, 0, none⟩) 0 0) 0 [] := by
    have q := litT (wr.alloc (.cells #[.string s] 9))
    rw [World.size_alloc] at q
    exact ownMonoF q (by omega)
   have nBA : ∀ j u, (l.map Value.string)[j]? = some u -> ((wr.alloc (.cells #[.string s] 9)).alloc (.cells #[] 9)).drew.cell? ((⟨g, 0, none⟩ : Addr).add j) = some u := newsT ((h1.kept (grownOfBelow bC none) (blockCases _ _ fun b c1 c2 => by cases c2)).kept (grownOfBelow bD none) (blockCases _ _ fun b c1 c2 => by cases c2)).drew
   have cBA : ((wr.alloc (.cells #[.string s] 9)).alloc (.cells #[] 9)).drew.cell? ⟨wr.heap.size, 0, none⟩ = some (.string s) := (Fr.ofBelow (lo := 0) (hi := 0) bD).cell (Rs.new wr #[.string s] 9 0 _ rfl) (.inr (Nat.zero_le _))
   have BA : Below w.heap.size w (wr.alloc (.cells #[] 9)).drew := (BW.trans (bA.mono zW)).drew
   have BAB : Below w.heap.size w ((wr.alloc (.cells #[] 9)).alloc (.cells #[.string s] 9)).drew := ((BW.trans (bA.mono zW)).trans (bB.mono (by simp; omega))).drew
   have BBA : Below w.heap.size w ((wr.alloc (.cells #[.string s] 9)).alloc (.cells #[] 9)).drew := ((BW.trans (bC.mono zW)).trans (bD.mono (by simp; omega))).drew
   clear o1 n1 bA bB bC bD h1 BW
   by_cases hcc : c = l.length
   ·subst hcc
    go_wp2_with fail
    go_region_law (first
     | (have gd := p5; clear gd; refine stepApp rfl (.tmp 40) (.tmp 43) 95 rfl wr.heap.size 9 i0 (.string ByteArray.empty) 1 16 Tryz.underlying95 hi hz0 hz1 hz2 rfl (by decide) (.slice ua (l.length + 1) uc) _ _ rfl p5 ⟨g, 0, none⟩ 0 _ (([] : List ByteArray).map Value.string) rfl rfl (nilNews _ _) (oneStr _) (by unfold maxLen; omega) (by omega) (z5) ?_; intro v7 w7 p7 g7 _; have B7 := B5.grown g7 B5.size (fun j hj => Nat.le_trans zW (p5.lt j hj).1))
     | (have gd := mkA; clear gd; refine stepApp rfl (.tmp 37) (.tmp 39) 95 rfl wr.heap.size 9 i0 (.string ByteArray.empty) 1 16 Tryz.underlying95 hi hz0 hz1 hz2 rfl (by decide) (.slice va l.length vc) _ _ rfl pB ⟨w3.heap.size, 0, none⟩ 1 1 ([s].map Value.string) rfl rfl nB (oneStr _) (by unfold maxLen; omega) (by omega) (zB) ?_; intro v5 w5 p5 g5 _; obtain ⟨ua, uc, rfl⟩ := shapeK3 p5; have z5 := Nat.le_trans zB g5.size; have B5 := B4.grown g5 B4.size (fun j hj => Nat.le_trans zW (pB.lt j hj).1))
     | (have gd := mkB; clear gd; refine stepApp rfl (.tmp 37) (.tmp 39) 95 rfl wr.heap.size 9 i0 (.string ByteArray.empty) 1 16 Tryz.underlying95 hi hz0 hz1 hz2 rfl (by decide) (.slice va l.length vc) _ _ rfl p3 ⟨wr.heap.size + 1, 0, none⟩ 1 1 ([s].map Value.string) rfl rfl nC (oneStr _) (by unfold maxLen; omega) (by omega) (zC) ?_; intro v5 w5 p5 g5 _; obtain ⟨ua, uc, rfl⟩ := shapeK3 p5; have z5 := Nat.le_trans zC g5.size; have B5 := B3.grown g5 B3.size (fun j hj => Nat.le_trans zW (p3.lt j hj).1))
     | (have gd := mkC; clear gd; refine stepApp rfl (.tmp 37) (.tmp 39) 95 rfl wr.heap.size 9 i0 (.string ByteArray.empty) 1 16 Tryz.underlying95 hi hz0 hz1 hz2 rfl (by decide) (.slice va l.length vc) _ _ rfl p3 ⟨wr.heap.size, 0, none⟩ 1 1 ([s].map Value.string) rfl rfl nD (oneStr _) (by unfold maxLen; omega) (by omega) (zD) ?_; intro v5 w5 p5 g5 _; obtain ⟨ua, uc, rfl⟩ := shapeK3 p5; have z5 := Nat.le_trans zD g5.size; have B5 := B3.grown g5 B3.size (fun j hj => Nat.le_trans zW (p3.lt j hj).1))
     | (refine stepApp rfl (.tmp 33) (.tmp 36) 95 rfl wr.heap.size 9 i0 (.string ByteArray.empty) 1 16 Tryz.underlying95 hi hz0 hz1 hz2 rfl (by decide) (.slice (some ⟨wr.heap.size, 0, none⟩) 0 0) _ _ rfl oA ⟨g, 0, none⟩ l.length l.length (l.map Value.string) rfl (by simp) nA (oneStr _) (by unfold maxLen; omega) (by omega) (Nat.le_of_lt zA) ?_; intro v3 w3 p3 g3 _; replace p3 := zadd p3; obtain ⟨va, vc, rfl⟩ := shapeK3 p3; have mkA := p3; have B3 := BA.grown g3 BA.size (fun j hj => Nat.le_trans zW (oA.lt j hj).1); have zz3 := g3.size; have pB := p3.kept (grownOfBelow (allocBelow w3 (.cells #[.string s] 9)) none) (blockCases _ _ fun b c1 c2 => by cases c2); have nB := newT w3 s; have zB : wr.heap.size <= (w3.alloc (.cells #[.string s] 9)).heap.size := Nat.le_trans (Nat.le_trans (Nat.le_of_lt zA) zz3) (allocBelow w3 (.cells #[.string s] 9)).size; have B4 := B3.trans ((allocBelow w3 (.cells #[.string s] 9)).mono B3.size))
     | (refine stepApp rfl (.tmp 33) (.tmp 36) 95 rfl wr.heap.size 9 i0 (.string ByteArray.empty) 1 16 Tryz.underlying95 hi hz0 hz1 hz2 rfl (by decide) (.slice (some ⟨wr.heap.size, 0, none⟩) 0 0) _ _ rfl oAB ⟨g, 0, none⟩ l.length l.length (l.map Value.string) rfl (by simp) nAB (oneStr _) (by unfold maxLen; omega) (by omega) (Nat.le_of_lt zAB) ?_; intro v3 w3 p3 g3 _; replace p3 := zadd p3; obtain ⟨va, vc, rfl⟩ := shapeK3 p3; have mkB := p3; have B3 := BAB.grown g3 BAB.size (fun j hj => Nat.le_trans zW (oAB.lt j hj).1); have nC := oneKept g3 cAB (neS _); have zC := Nat.le_trans (Nat.le_of_lt zAB) g3.size)
     | (refine stepApp rfl (.tmp 33) (.tmp 36) 95 rfl wr.heap.size 9 i0 (.string ByteArray.empty) 1 16 Tryz.underlying95 hi hz0 hz1 hz2 rfl (by decide) (.slice (some ⟨wr.heap.size + 1, 0, none⟩) 0 0) _ _ rfl oBA ⟨g, 0, none⟩ l.length l.length (l.map Value.string) rfl (by simp) nBA (oneStr _) (by unfold maxLen; omega) (by omega) (Nat.le_of_lt zBA) ?_; intro v3 w3 p3 g3 _; replace p3 := zadd p3; obtain ⟨va, vc, rfl⟩ := shapeK3 p3; have mkC := p3; have B3 := BBA.grown g3 BBA.size (fun j hj => Nat.le_trans zW (oBA.lt j hj).1); have nD := oneKept g3 cBA (neT _); have zD := Nat.le_trans (Nat.le_of_lt zBA) g3.size))
    all_goals
     replace p7 := adz p7
     obtain ⟨ta, tc, rfl⟩ := shapeK3 p7
     obtain ⟨gg, rfl⟩ : ∃ gg, ta = some ⟨gg, 0, none⟩ := by
      rcases p7.2 with ⟨h', h0⟩ | ⟨b, cap, cur, h', _⟩
      ·omega
      ·simp only [Value.slice.injEq] at h'
       exact ⟨b, h'.1⟩
     have HF : Hid (P9 base (l ++ [s]) w (.returned (.slice (some ⟨gg, 0, none⟩) (l.length + 1) tc)) w7) := ⟨gg, tc, by simp, by simpa using ownMonoF p7 (b := base) (by omega), B7⟩
     clear p7 g7
     go_wp2
     go_ret
     exact HF.out
   ·have qc : ¬ (l.length : Int) = (c : Int) := by omega
    have qc2 : (l.length : Int) <= (c : Int) := by omega
    go_wp2_with fail
    go_region_law (first
     | (have gd := p5; clear gd; refine stepApp rfl (.tmp 40) (.tmp 43) 95 rfl wr.heap.size 9 i0 (.string ByteArray.empty) 1 16 Tryz.underlying95 hi hz0 hz1 hz2 rfl (by decide) (.slice ua (l.length + 1) uc) _ _ rfl p5 ⟨g, l.length, none⟩ 0 _ (([] : List ByteArray).map Value.string) rfl rfl (nilNews _ _) (oneStr _) (by unfold maxLen; omega) (by omega) (z5) ?_; intro v7 w7 p7 g7 _; have B7 := B5.grown g7 B5.size (fun j hj => Nat.le_trans zW (p5.lt j hj).1))
     | (have gd := mkA; clear gd; refine stepApp rfl (.tmp 37) (.tmp 39) 95 rfl wr.heap.size 9 i0 (.string ByteArray.empty) 1 16 Tryz.underlying95 hi hz0 hz1 hz2 rfl (by decide) (.slice va l.length vc) _ _ rfl pB ⟨w3.heap.size, 0, none⟩ 1 1 ([s].map Value.string) rfl rfl nB (oneStr _) (by unfold maxLen; omega) (by omega) (zB) ?_; intro v5 w5 p5 g5 _; obtain ⟨ua, uc, rfl⟩ := shapeK3 p5; have z5 := Nat.le_trans zB g5.size; have B5 := B4.grown g5 B4.size (fun j hj => Nat.le_trans zW (pB.lt j hj).1))
     | (have gd := mkB; clear gd; refine stepApp rfl (.tmp 37) (.tmp 39) 95 rfl wr.heap.size 9 i0 (.string ByteArray.empty) 1 16 Tryz.underlying95 hi hz0 hz1 hz2 rfl (by decide) (.slice va l.length vc) _ _ rfl p3 ⟨wr.heap.size + 1, 0, none⟩ 1 1 ([s].map Value.string) rfl rfl nC (oneStr _) (by unfold maxLen; omega) (by omega) (zC) ?_; intro v5 w5 p5 g5 _; obtain ⟨ua, uc, rfl⟩ := shapeK3 p5; have z5 := Nat.le_trans zC g5.size; have B5 := B3.grown g5 B3.size (fun j hj => Nat.le_trans zW (p3.lt j hj).1))
     | (have gd := mkC; clear gd; refine stepApp rfl (.tmp 37) (.tmp 39) 95 rfl wr.heap.size 9 i0 (.string ByteArray.empty) 1 16 Tryz.underlying95 hi hz0 hz1 hz2 rfl (by decide) (.slice va l.length vc) _ _ rfl p3 ⟨wr.heap.size, 0, none⟩ 1 1 ([s].map Value.string) rfl rfl nD (oneStr _) (by unfold maxLen; omega) (by omega) (zD) ?_; intro v5 w5 p5 g5 _; obtain ⟨ua, uc, rfl⟩ := shapeK3 p5; have z5 := Nat.le_trans zD g5.size; have B5 := B3.grown g5 B3.size (fun j hj => Nat.le_trans zW (p3.lt j hj).1))
     | (refine stepApp rfl (.tmp 33) (.tmp 36) 95 rfl wr.heap.size 9 i0 (.string ByteArray.empty) 1 16 Tryz.underlying95 hi hz0 hz1 hz2 rfl (by decide) (.slice (some ⟨wr.heap.size, 0, none⟩) 0 0) _ _ rfl oA ⟨g, 0, none⟩ l.length c (l.map Value.string) rfl (by simp) nA (oneStr _) (by unfold maxLen; omega) (by omega) (Nat.le_of_lt zA) ?_; intro v3 w3 p3 g3 _; replace p3 := zadd p3; obtain ⟨va, vc, rfl⟩ := shapeK3 p3; have mkA := p3; have B3 := BA.grown g3 BA.size (fun j hj => Nat.le_trans zW (oA.lt j hj).1); have zz3 := g3.size; have pB := p3.kept (grownOfBelow (allocBelow w3 (.cells #[.string s] 9)) none) (blockCases _ _ fun b c1 c2 => by cases c2); have nB := newT w3 s; have zB : wr.heap.size <= (w3.alloc (.cells #[.string s] 9)).heap.size := Nat.le_trans (Nat.le_trans (Nat.le_of_lt zA) zz3) (allocBelow w3 (.cells #[.string s] 9)).size; have B4 := B3.trans ((allocBelow w3 (.cells #[.string s] 9)).mono B3.size))
     | (refine stepApp rfl (.tmp 33) (.tmp 36) 95 rfl wr.heap.size 9 i0 (.string ByteArray.empty) 1 16 Tryz.underlying95 hi hz0 hz1 hz2 rfl (by decide) (.slice (some ⟨wr.heap.size, 0, none⟩) 0 0) _ _ rfl oAB ⟨g, 0, none⟩ l.length c (l.map Value.string) rfl (by simp) nAB (oneStr _) (by unfold maxLen; omega) (by omega) (Nat.le_of_lt zAB) ?_; intro v3 w3 p3 g3 _; replace p3 := zadd p3; obtain ⟨va, vc, rfl⟩ := shapeK3 p3; have mkB := p3; have B3 := BAB.grown g3 BAB.size (fun j hj => Nat.le_trans zW (oAB.lt j hj).1); have nC := oneKept g3 cAB (neS _); have zC := Nat.le_trans (Nat.le_of_lt zAB) g3.size)
     | (refine stepApp rfl (.tmp 33) (.tmp 36) 95 rfl wr.heap.size 9 i0 (.string ByteArray.empty) 1 16 Tryz.underlying95 hi hz0 hz1 hz2 rfl (by decide) (.slice (some ⟨wr.heap.size + 1, 0, none⟩) 0 0) _ _ rfl oBA ⟨g, 0, none⟩ l.length c (l.map Value.string) rfl (by simp) nBA (oneStr _) (by unfold maxLen; omega) (by omega) (Nat.le_of_lt zBA) ?_; intro v3 w3 p3 g3 _; replace p3 := zadd p3; obtain ⟨va, vc, rfl⟩ := shapeK3 p3; have mkC := p3; have B3 := BBA.grown g3 BBA.size (fun j hj => Nat.le_trans zW (oBA.lt j hj).1); have nD := oneKept g3 cBA (neT _); have zD := Nat.le_trans (Nat.le_of_lt zBA) g3.size))
    all_goals
     replace p7 := adz p7
     obtain ⟨ta, tc, rfl⟩ := shapeK3 p7
     obtain ⟨gg, rfl⟩ : ∃ gg, ta = some ⟨gg, 0, none⟩ := by
      rcases p7.2 with ⟨h', h0⟩ | ⟨b, cap, cur, h', _⟩
      ·omega
      ·simp only [Value.slice.injEq] at h'
       exact ⟨b, h'.1⟩
     have HF : Hid (P9 base (l ++ [s]) w (.returned (.slice (some ⟨gg, 0, none⟩) (l.length + 1) tc)) w7) := ⟨gg, tc, by simp, by simpa using ownMonoF p7 (b := base) (by omega), B7⟩
     clear p7 g7
     go_wp2
     go_ret
     exact HF.out
end Go.Proofs.YtgincoiehbdphaaGreatDoor.En
namespace Go.Proofs.YtgincoiehbdphaaGreatDoor.En
open Go.ChangeShapes Go.WideShapes Go.ChangeAt Go.RowKit
def SN (L : List ByteArray) (w : World) (e : Ending) (w' : World) : Prop := ∃ g c, e = .returned (.slice (some ⟨g, 0, none⟩) L.length c) /\ w'.ownsRow w.heap.size 9 1 (.slice (some ⟨g, 0, none⟩) L.length c) L.length (L.map Value.string) /\ Below w.heap.size w w'
set_option maxRecDepth 20000 in
set_option maxHeartbeats 4000000 in
theorem l10ClashesC (a : Option Addr) (c : Nat) (l : List Ob) (w : World) (h : OB w.heap.size w a l) (hx : ixf l = 0) :
  Calls Tryz.prog 56 #[.slice a l.length c] w fun e w' => SN (cl l) w e w' := by
 have hln := (ixf_zero hx).1
 have HX : Hid (∀ k, k < l.length -> ¬ (l.getD k onil).2.1 = 0 -> (∃ i, cl (l.take k) = i ++ [(l.getD k onil).1] /\ LastS i (l.getD k onil).1 /\ cl (l.take (k + 1)) = cl (l.take k)) \/ (LastS (cl (l.take k)) (l.getD k onil).1 /\ cl (l.take (k + 1)) = cl (l.take k) ++ [(l.getD k onil).1])) := fun k hk ho => cl_next hx hk ho
 have HS : Hid (∀ k, k < l.length -> 0 <= (l.getD k onil).2.1) := fun k hk => (ix_stage ((ixf_zero hx).2 k hk)).1
 clear hx
 go_enter Tryz.func56, Tryz.ntmps56
 go_wp2
 go_loopw [3, 4] (fun v i wr => ∃ (k g0 c0 : Nat), k <= l.length /\ i = .int .i64 k /\ v = .slice (some ⟨g0, 0, none⟩) (cl (l.take k)).length c0 /\ wr.ownsRow w.heap.size 9 1 (.slice (some ⟨g0, 0, none⟩) (cl (l.take k)).length c0) (cl (l.take k)).length ((cl (l.take k)).map Value.string) /\ Below w.heap.size w wr) (fun _ i _ => l.length - (intOf i).toNat)
 case atStart => exact ⟨0, _, _, Nat.zero_le _, rfl, rfl, litT _, allocBelow _ _⟩
 case round =>
  obtain ⟨k, g0, c0, hk, rfl, rfl, hor, hbel⟩ := hrel
  have hsz := hbel.size
  by_cases hlt : k < l.length
  ·have qk : (k : Int) < (l.length : Int) := by omega
   obtain ⟨g, off, e, hg, d0, d1, d2, d3⟩ := (h.below hbel) k hlt
   subst e
   have hN := HX.out k hlt
   have hst := HS.out k hlt
   have hz : (l.getD k onil).2.1 = 0 -> cl (l.take (k + 1)) = cl (l.take k) := fun e => by rw [cl_take l k hlt, clS_zero e]
   have hcl := cl_len l k
   obtain ⟨C, hCe⟩ : ∃ C, l.getD k onil = C := ⟨_, rfl⟩
   obtain ⟨x0, x1, x2, x3⟩ := C
   rw [hCe] at d0 d1 d2 d3 hN hz hst
   simp only [] at d0 d1 d2 d3 hN hz hst
   obtain ⟨T, hTe⟩ : ∃ T, cl (l.take k) = T := ⟨_, rfl⟩
   rw [hTe] at hor hN hz hcl ⊢
   clear hCe hTe
   by_cases hx1 : x1 = 0
   ·subst hx1
    have HZ : Hid (cl (l.take (k + 1)) = T) := hz rfl
    have O4 : Hid (World.ownsRow _ _ _ _ _ _ _) := hor
    clear hN hz hor
    go_wp2
    go_roundw
    case rel => exact ⟨k + 1, g0, c0, by omega, by go_num, by rw [HZ.out], by rw [HZ.out]; exact O4.out, hbel⟩
    case measure => first | (simp [intOf]; omega) | simp [intOf]
   ·have q1 : 0 < x1 := by omega
    have hD : Calls Tryz.prog 100 #[.slice (some ⟨g0, 0, none⟩) T.length c0, .string x0] wr fun e w' => P9 w.heap.size (cl (l.take (k + 1))) wr e w' := by
     rcases hN hx1 with ⟨i, e1, e2, e3⟩ | ⟨e1, e2⟩
     ·rw [e3]
      rw [e1] at hor hcl ⊢
      rw [List.length_append, List.length_singleton] at hcl
      exact l9PutSame w.heap.size g0 c0 i x0 wr hor (by omega) e2
     ·rw [e2]
      exact l9PutEnd w.heap.size g0 c0 T x0 wr hor (by omega) e1 hsz
    clear hN hz hor
    go_wp2_with fail
    refine hD.mono ?_; rintro e w6 ⟨g6, c6, rfl, o6, b6⟩
    have B6 := below_step hbel hsz b6
    have O6 : Hid (World.ownsRow _ _ _ _ _ _ _) := o6
    obtain ⟨T2, hT2⟩ : ∃ T2, cl (l.take (k + 1)) = T2 := ⟨_, rfl⟩
    have HT2 : Hid (cl (l.take (k + 1)) = T2) := hT2
    rw [hT2] at O6 ⊢
    clear hD hbel b6 o6 hT2
    go_wp2
    go_roundw
    case rel => exact ⟨k + 1, g6, c6, by omega, by go_num, by rw [HT2.out], by rw [HT2.out]; exact O6.out, B6⟩
    case measure => first | (simp [intOf]; omega) | simp [intOf]
  ·have qk : ¬ (k : Int) < (l.length : Int) := by omega
   have ek : l.take k = l := List.take_of_length_le (by omega)
   rw [ek] at hor ⊢
   have HO : Hid (World.ownsRow _ _ _ _ _ _ _) := hor
   clear hor ek
   go_wp2
   go_ret
   exact ⟨_, _, rfl, HO.out, hbel⟩
end Go.Proofs.YtgincoiehbdphaaGreatDoor.En
set_option linter.unusedVariables false
namespace Go.Proofs.YtgincoiehbdphaaGreatDoor.En
open Go.ChangeShapes Go.WideShapes Go.ChangeAt Go.RowKit
theorem neSE (n : Nat) : some (n + 1) ≠ (Value.slice (some ⟨n, 0, none⟩) 0 0).ownBlock := fun e => by
 have : n + 1 = n := Option.some.inj e
 omega
theorem neTE (n : Nat) : some n ≠ (Value.slice (some ⟨n + 1, 0, none⟩) 0 0).ownBlock := fun e => by
 have : n = n + 1 := Option.some.inj e
 omega
theorem newsKeepE {w w' : World} {row : Option Nat} {g o : Nat} {xs : List Value} (hg : w.grownBy w' row) (hne : some g ≠ row) (h : ∀ j u, xs[j]? = some u -> w.cell? ((⟨g, o, none⟩ : Addr).add j) = some u) : ∀ j u, xs[j]? = some u -> w'.cell? ((⟨g, o, none⟩ : Addr).add j) = some u := fun j u hu => by
 have q := h j u hu
 rw [add_plain] at q ⊢
 exact hg.cell q hne
theorem newsBelowE {w w' : World} {g o : Nat} {xs : List Value} (hb : Below w.heap.size w w') (h : ∀ j u, xs[j]? = some u -> w.cell? ((⟨g, o, none⟩ : Addr).add j) = some u) : ∀ j u, xs[j]? = some u -> w'.cell? ((⟨g, o, none⟩ : Addr).add j) = some u := fun j u hu => by
 have q := h j u hu
 rw [add_plain] at q ⊢
 exact zS hb q
theorem zaddE {w : World} {base : Nat} {t : TypeId} {k : Nat} {v : Value} {n : Nat} {xs : List Value} (h : w.ownsRow base t k v (0 + n) ([] ++ xs)) : w.ownsRow base t k v n xs := by rw [Nat.zero_add, List.nil_append] at h; exact h
theorem ocells_atE (l : List Ob) (j : Nat) (h : j < l.length * 4) : (ocells l)[j]? = some (ocell l j) := rowG_at _ _ _ h
theorem ocells_ltE {l : List Ob} {j : Nat} {u : Value} (h : (ocells l)[j]? = some u) : j < l.length * 4 := by
 have := (List.getElem?_eq_some_iff.1 h).1
 rw [ocells_length] at this
 exact this
theorem OB.cellJ {B g off : Nat} {w : World} {l : List Ob} (h : OB B w (some ⟨g, off, none⟩) l) (j : Nat) (hj : j < l.length * 4) : w.cell? ⟨g, off + j, none⟩ = some (ocell l j) := by
 obtain ⟨g', off', e, _, c0, c1, c2, c3⟩ := h (j / 4) (by omega)
 simp only [Option.some.injEq, Addr.mk.injEq, and_true] at e
 obtain ⟨rfl, rfl⟩ := e
 unfold ocell
 by_cases q0 : j % 4 = 0
 ·rw [if_pos q0, <- c0, show off + j / 4 * 4 = off + j by omega]
 ·rw [if_neg q0]
  by_cases q1 : j % 4 = 1
  ·rw [if_pos q1, <- c1, show off + j / 4 * 4 + 1 = off + j by omega]
  ·rw [if_neg q1]
   by_cases q2 : j % 4 = 2
   ·rw [if_pos q2, <- c2, show off + j / 4 * 4 + 2 = off + j by omega]
   ·rw [if_neg q2, <- c3, show off + j / 4 * 4 + 3 = off + j by omega]
theorem newsTakeE {B g : Nat} {w : World} {l : List Ob} (h : OB B w (some ⟨g, 0, none⟩) l) (n : Nat) (hn : n <= l.length) : ∀ j u, (ocells (l.take n))[j]? = some u -> w.cell? ((⟨g, 0, none⟩ : Addr).add j) = some u := by
 intro j u hu
 have hj := ocells_ltE hu
 rw [List.length_take] at hj
 have e : ocells l = ocells (l.take n) ++ ocells (l.drop n) := by rw [<- ocells_app, List.take_append_drop]
 have h2 : (ocells l)[j]? = some u := by rw [e, List.getElem?_append_left (by rw [ocells_length, List.length_take]; omega)]; exact hu
 rw [add_plain, h.cellJ j (by omega), <- h2, ocells_atE l j (by omega)]
theorem newsDropE {B g : Nat} {w : World} {l : List Ob} (h : OB B w (some ⟨g, 0, none⟩) l) (n : Nat) (hn : n <= l.length) : ∀ j u, (ocells (l.drop n))[j]? = some u -> w.cell? ((⟨g, n * 4, none⟩ : Addr).add j) = some u := by
 intro j u hu
 have hj := ocells_ltE hu
 rw [List.length_drop] at hj
 have e : ocells l = ocells (l.take n) ++ ocells (l.drop n) := by rw [<- ocells_app, List.take_append_drop]
 have hl : (ocells (l.take n)).length = n * 4 := by rw [ocells_length, List.length_take]; omega
 have h2 : (ocells l)[n * 4 + j]? = some u := by rw [e, List.getElem?_append_right (by rw [hl]; omega), hl, show n * 4 + j - n * 4 = j by omega]; exact hu
 have h3 := h.cellJ (n * 4 + j) (by omega)
 rw [Nat.zero_add] at h3
 rw [add_plain, h3, <- h2, ocells_atE l _ (by omega)]
theorem cmE_irr (a : Ob) : ¬ cmE a a < 0 := fun h => by
 rcases cmE_lt.1 h with q | q
 ·have := cmB_zero.2 (rfl : a.1 = a.1); omega
 ·omega
theorem gt_form (a b : ByteArray) : (!Op.bytesLess a.toList b.toList && !a.toList == b.toList) = Op.bytesLess b.toList a.toList := by
 rcases cmB_cases a b with ⟨h1, h2, h3⟩ | ⟨h1, h2⟩ | ⟨h1, h2, h3⟩
 ·rw [h2]
  cases q : Op.bytesLess b.toList a.toList with
  | false => rfl
  | true =>
   have h9 := byL_trans _ _ _ h2 q
   rw [byL_irr] at h9
   cases h9
 ·subst h2
  rw [byL_irr]
  simp
 ·rw [h2, h3]
  have h9 : cmB b a < 0 := by rw [cm_anti _ _ h1]; omega
  rw [cmB_lt.1 h9]
  rfl
def PutP (L : List Ob) (w : World) (e : Ending) (w' : World) : Prop := ∃ tg tc, e = .returned (.slice (some ⟨tg, 0, none⟩) L.length tc) /\ w'.ownsRow w.heap.size 106 4 (.slice (some ⟨tg, 0, none⟩) L.length tc) L.length (ocells L) /\ Below w.heap.size w w'
theorem put_place {T : List Ob} {E : Ob} (hr : Rise T) (ha : Apart T E) {k : Nat} (hk : k <= T.length) (hup : ∀ j, k <= j -> j < T.length -> cmE E (T.getD j onil) < 0) (hlo : 0 < k -> ¬ cmE E (T.getD (k - 1) onil) < 0) : pe T E = k := by
 refine cuts_one (pe_cuts hr E) ⟨hk, fun j hj => ?_, fun j h1 h2 => ?_⟩
 ·have h0 : cmE (T.getD (k - 1) onil) E < 0 := by
   rcases Int.lt_or_le (cmE (T.getD (k - 1) onil) E) 0 with q | q
   ·exact q
   ·exact absurd (cmE_gt (by have := ha (k - 1) (by omega); omega)) (hlo (by omega))
  by_cases e : j = k - 1
  ·rw [e]; exact h0
  ·exact cmE_trans (hr j (k - 1) (by omega) (by omega)) h0
 ·rcases Int.lt_or_le (cmE (T.getD j onil) E) 0 with q | q
  ·exact absurd (cmE_trans (hup j h1 h2) q) (cmE_irr _)
  ·exact q
set_option maxRecDepth 20000 in
set_option maxHeartbeats 4000000 in
theorem l10PutC (g c : Nat) (T : List Ob) (E : Ob) (w : World) (h : OB w.heap.size w (some ⟨g, 0, none⟩) T) (hg : g < w.heap.size) (hc : T.length <= c) (hn : T.length <= 1048575) (hr : Rise T) (ha : Apart T E) :
  Calls Tryz.prog 107 #[.slice (some ⟨g, 0, none⟩) T.length c, .agg #[.string E.1, .int .i64 E.2.1, .int .i64 E.2.2.1, .string E.2.2.2]] w fun e w' => PutP (insL T (pe T E) E) w e w' := by
 have hpl : Hid (∀ k, k <= T.length -> (∀ j, k <= j -> j < T.length -> cmE E (T.getD j onil) < 0) -> (0 < k -> ¬ cmE E (T.getD (k - 1) onil) < 0) -> pe T E = k) := fun k hk hup hlo => put_place hr ha hk hup hlo
 obtain ⟨x0, x1, x2, x3⟩ := E
 simp only []
 obtain ⟨W, hW⟩ : ∃ W, w.alloc (.cells #[.string x0, .int .i64 x1, .int .i64 x2, .string x3] 106) = W := ⟨_, rfl⟩
 have bW : Below w.heap.size w W := by rw [<- hW]; exact allocBelow _ _
 have oW : Rf W w.heap.size [.string x0, .int .i64 x1, .int .i64 x2, .string x3] := by rw [<- hW]; exact Rf.new _ _ _
 have zW : w.heap.size < W.heap.size := by rw [<- hW]; simp
 have h1 := h.below bW
 obtain ⟨q0, hq0⟩ : ∃ q, w.heap.size = q := ⟨_, rfl⟩
 rw [hq0] at oW h1 zW hg
 clear hr ha h
 go_enter Tryz.func107, Tryz.ntmps107
 go_wp2
 clear hW
 go_loopw [5] (fun i wr => ∃ k : Nat, k <= T.length /\ i = .int .i64 k /\ Below W.heap.size W wr /\ Hid (∀ j, k <= j -> j < T.length -> cmE (x0, x1, x2, x3) (T.getD j onil) < 0)) (fun i _ => (intOf i).toNat)
 case atStart => exact ⟨T.length, Nat.le_refl _, rfl, Below.refl _ _, fun j h1 h2 => absurd h2 (by omega)⟩
 case round =>
  obtain ⟨k, hk, rfl, hbel, hup⟩ := hrel
  have hkl := hk
  have hsz := hbel.size
  have o2 := oW.below zW hbel
  have y0 := o2.at_ 0 _ rfl
  have y1 := o2.at_ 1 _ rfl
  have y2 := o2.at_ 2 _ rfl
  have y3 := o2.at_ 3 _ rfl
  have O4 : OB q0 wr (some ⟨g, 0, none⟩) T := h1.below hbel
  obtain ⟨Gb, hGb⟩ : ∃ G, decide (0 < k /\ cmE (x0, x1, x2, x3) (T.getD (k - 1) onil) < 0) = G := ⟨_, rfl⟩
  have HG : Hid (decide (0 < k /\ cmE (x0, x1, x2, x3) (T.getD (k - 1) onil) < 0) = Gb) := hGb
  clear hGb
  go_wp2_with fail
  go_cut [42] from 8 to 42 (fun s wx => s = .bool Gb /\ Below wr.heap.size wr wx)
  case first =>
   have BN : ∀ n, Below wr.heap.size wr (wr.drewN n) := fun n => ⟨rfl, rfl, rfl, Nat.le_refl _, fun _ _ => rfl⟩
   clear hpl hup h1 oW o2 hbel bW y2 y3
   rcases Nat.eq_zero_or_pos k with rfl | hpos
   ·have hG0 : Gb = false := by rw [<- HG.out]; simp
    subst hG0
    clear O4 HG
    go_quiet (fail)
    all_goals (go_wp2_with fail; go_meet; exact ⟨rfl, BN _⟩)
   ·obtain ⟨m, rfl⟩ : ∃ m, k = m + 1 := ⟨k - 1, by omega⟩
    obtain ⟨g', off', e, _, d0, d1, _, _⟩ := O4 m (by omega)
    simp only [Option.some.injEq, Addr.mk.injEq, and_true] at e
    obtain ⟨rfl, rfl⟩ := e
    rw [Nat.zero_add] at d0 d1
    have hG1 := HG.out
    rw [Nat.add_sub_cancel] at hG1
    have i1 : (0 : Int) < (m : Int) + 1 := by omega
    have i2 : IntKind.i64.wrap ((m : Int) + 1 - 1) = (m : Int) := by rw [IntKind.wrap_i64]; omega
    have i3 : IntKind.i64.wrap (m : Int) = (m : Int) := by rw [IntKind.wrap_i64]; omega
    have i4 : (m : Int) < (T.length : Int) := by omega
    have i5 : ¬ (m : Int) < 0 := by omega
    obtain ⟨C, hC⟩ : ∃ C, T.getD m onil = C := ⟨_, rfl⟩
    obtain ⟨a0, a1, a2, a3⟩ := C
    rw [hC] at d0 d1 hG1
    simp only [] at d0 d1
    clear hC O4 HG
    by_cases b1 : Op.bytesLess x0.toList a0.toList = true
    ·have hG2 : Gb = true := by rw [<- hG1]; exact decide_eq_true ⟨hpos, cmE_lt.2 (.inl (cmB_lt.2 b1))⟩
     subst hG2
     have hgt : (!Op.bytesLess a0.toList x0.toList && !a0.toList == x0.toList) = true := (gt_form a0 x0).trans b1
     clear hG1
     go_quiet (fail)
     all_goals (go_wp2_with fail; go_meet; exact ⟨rfl, BN _⟩)
    ·have b2 : Op.bytesLess x0.toList a0.toList = false := by simpa using b1
     have hgt : (!Op.bytesLess a0.toList x0.toList && !a0.toList == x0.toList) = false := (gt_form a0 x0).trans b2
     by_cases b3 : a0 = x0
     ·subst b3
      have b4 := beq_bytes_true (rfl : a0 = a0)
      by_cases b5 : x1 < a1
      ·have hG2 : Gb = true := by rw [<- hG1]; exact decide_eq_true ⟨hpos, cmE_lt.2 (.inr ⟨rfl, b5⟩)⟩
       subst hG2
       clear hG1
       go_quiet (fail)
       all_goals (go_wp2_with fail; go_meet; exact ⟨rfl, BN _⟩)
      ·have hG2 : Gb = false := by
        rw [<- hG1]
        refine decide_eq_false fun c => ?_
        rcases cmE_lt.1 c.2 with q | q
        ·have := cmB_zero.2 (rfl : a0 = a0); have : cmB a0 a0 < 0 := q; omega
        ·exact b5 q.2
       subst hG2
       clear hG1
       go_quiet (fail)
       all_goals (go_wp2_with fail; go_meet; exact ⟨rfl, BN _⟩)
     ·have b4 := beq_bytes_false b3
      have hL2 : Op.bytesLess a0.toList x0.toList = true := by rw [b4] at hgt; simpa using hgt
      have hG2 : Gb = false := by
       rw [<- hG1]
       refine decide_eq_false fun c => ?_
       rcases cmE_lt.1 c.2 with q | q
       ·exact b1 (cmB_lt.1 q)
       ·exact b3 q.1.symm
      subst hG2
      clear hG1
      go_quiet (fail)
      all_goals (go_wp2_with fail; go_meet; exact ⟨rfl, BN _⟩)
  case rest =>
  obtain ⟨rfl, hbC⟩ := hcut
  have B9 := hbel.trans (hbC.mono hsz)
  have HGo := HG.out
  cases Gb with
  | true =>
   have hgo := of_decide_eq_true HGo
   obtain ⟨m, rfl⟩ : ∃ m, k = m + 1 := ⟨k - 1, by omega⟩
   have i2 : IntKind.i64.wrap ((m : Int) + 1 - 1) = (m : Int) := by rw [IntKind.wrap_i64]; omega
   have i3 : IntKind.i64.wrap (m : Int) = (m : Int) := by rw [IntKind.wrap_i64]; omega
   have HU : Hid (∀ j, m <= j -> j < T.length -> cmE (x0, x1, x2, x3) (T.getD j onil) < 0) := fun j q1 q2 => by
    by_cases e : j = m
    ·rw [e]; have h9 := hgo.2; rw [Nat.add_sub_cancel] at h9; exact h9
    ·exact hup.out j (by omega) q2
   have HBB : Hid (Below W.heap.size W wc) := B9
   clear HGo HG hgo hup hpl h1 oW o2 y0 y1 y2 y3 O4 hbel hbC B9 bW
   go_wp2
   go_roundw
   case rel => exact ⟨m, by omega, by go_num, HBB.out, HU⟩
   case measure => first | (simp [intOf]; omega) | simp [intOf]
  | false =>
   have hK : Hid (pe T (x0, x1, x2, x3) = k) := hpl.out k hk hup.out (fun q1 => by
    rcases Int.lt_or_le (cmE (x0, x1, x2, x3) (T.getD (k - 1) onil)) 0 with q2 | q2
    ·exact absurd ⟨q1, q2⟩ (of_decide_eq_false HGo)
    ·first | exact q2 | exact (by omega))
   have OC := O4.below hbC
   have BW : Below q0 w wc := by rw [<- hq0]; exact bW.trans (B9.mono bW.size)
   have o3 := o2.below (by omega) hbC
   have y0 := o3.at_ 0 _ rfl
   have y1 := o3.at_ 1 _ rfl
   have y2 := o3.at_ 2 _ rfl
   have y3 := o3.at_ 3 _ rfl
   have zq : q0 < wc.heap.size := by have := hbC.size; omega
   clear HGo HG hup hpl h1 oW o2 o3 O4 hbel hbC B9 bW
   have qkc : (k : Int) <= (c : Int) := by omega
   have qkl : (k : Int) <= (T.length : Int) := by omega
   have qn0 : (0 : Int) <= (k : Int) := by omega
   obtain ⟨i0, hi, hz0, hz1, hz2⟩ := info_parts infoObj
   obtain ⟨z, hzz⟩ : ∃ z, wc.heap.size = z := ⟨_, rfl⟩
   have hbz : q0 <= z := by omega
   have hqz : q0 < z := by omega
   have hgz : g < z := by omega
   have neX : ∀ {W : World} {v : Value} {n : Nat} {xs : List Value} (h : W.ownsRow z 106 4 v n xs), some g ≠ v.ownBlock := fun h e => by have := (h.lt g e.symm).1; omega
   have neQ : ∀ {W : World} {v : Value} {n : Nat} {xs : List Value} (h : W.ownsRow z 106 4 v n xs), some q0 ≠ v.ownBlock := fun h e => by have := (h.lt q0 e.symm).1; omega
   have bA := allocBelow wc (.cells #[] 106)
   have bAB := allocBelow (wc.alloc (.cells #[] 106)) (.cells #[.string x0, .int .i64 x1, .int .i64 x2, .string x3] 106)
   have bC := allocBelow wc (.cells #[.string x0, .int .i64 x1, .int .i64 x2, .string x3] 106)
   have bBA := allocBelow (wc.alloc (.cells #[.string x0, .int .i64 x1, .int .i64 x2, .string x3] 106)) (.cells #[] 106)
   have bA2 : Below wc.heap.size wc ((wc.alloc (.cells #[] 106)).alloc (.cells #[.string x0, .int .i64 x1, .int .i64 x2, .string x3] 106)) := bA.trans (bAB.mono bA.size)
   have bC2 : Below wc.heap.size wc ((wc.alloc (.cells #[.string x0, .int .i64 x1, .int .i64 x2, .string x3] 106)).alloc (.cells #[] 106)) := bC.trans (bBA.mono bC.size)
   have oA0 : (wc.alloc (.cells #[] 106)).ownsRow z 106 4 (.slice (some ⟨z, 0, none⟩) 0 0) 0 [] := by rw [<- hzz]; exact World.ownsRow_made wc #[] 0 (Nat.le_refl _) (by unfold maxLen; omega) rfl
   have oA : (wc.alloc (.cells #[] 106)).drew.ownsRow z 106 4 (.slice (some ⟨z, 0, none⟩) 0 0) 0 [] := oA0.drew
   have oAB : ((wc.alloc (.cells #[] 106)).alloc (.cells #[.string x0, .int .i64 x1, .int .i64 x2, .string x3] 106)).drew.ownsRow z 106 4 (.slice (some ⟨z, 0, none⟩) 0 0) 0 [] := (oA0.kept (grownOfBelow bAB none) (blockCases _ _ fun b c1 c2 => by cases c2)).drew
   have oBA : ((wc.alloc (.cells #[.string x0, .int .i64 x1, .int .i64 x2, .string x3] 106)).alloc (.cells #[] 106)).drew.ownsRow z 106 4 (.slice (some ⟨z + 1, 0, none⟩) 0 0) 0 [] := by
    have h9 := World.ownsRow_made (base := z + 1) (e := 106) (size := 4) (wc.alloc (.cells #[.string x0, .int .i64 x1, .int .i64 x2, .string x3] 106)) #[] 0 (by rw [World.size_alloc, hzz]; exact Nat.le_refl _) (by unfold maxLen; omega) rfl
    rw [World.size_alloc, hzz] at h9
    exact (ownMonoF h9 (by omega)).drew
   have zA : z <= (wc.alloc (.cells #[] 106)).drew.heap.size := by rw [<- hzz]; exact bA.size
   have zAB : z <= ((wc.alloc (.cells #[] 106)).alloc (.cells #[.string x0, .int .i64 x1, .int .i64 x2, .string x3] 106)).drew.heap.size := by rw [<- hzz]; exact bA2.size
   have zBA : z <= ((wc.alloc (.cells #[.string x0, .int .i64 x1, .int .i64 x2, .string x3] 106)).alloc (.cells #[] 106)).drew.heap.size := by rw [<- hzz]; exact bC2.size
   have BA : Below q0 w (wc.alloc (.cells #[] 106)).drew := (BW.trans (bA.mono (by omega))).drew
   have BAB : Below q0 w ((wc.alloc (.cells #[] 106)).alloc (.cells #[.string x0, .int .i64 x1, .int .i64 x2, .string x3] 106)).drew := (BW.trans (bA2.mono (by omega))).drew
   have BBA : Below q0 w ((wc.alloc (.cells #[.string x0, .int .i64 x1, .int .i64 x2, .string x3] 106)).alloc (.cells #[] 106)).drew := (BW.trans (bC2.mono (by omega))).drew
   have y0A : (wc.alloc (.cells #[] 106)).drew.cell? ⟨q0, 0, none⟩ = some (.string x0) := zS bA.drew y0
   have y1A : (wc.alloc (.cells #[] 106)).drew.cell? ⟨q0, 1, none⟩ = some (.int .i64 x1) := zS bA.drew y1
   have y2A : (wc.alloc (.cells #[] 106)).drew.cell? ⟨q0, 2, none⟩ = some (.int .i64 x2) := zS bA.drew y2
   have y3A : (wc.alloc (.cells #[] 106)).drew.cell? ⟨q0, 3, none⟩ = some (.string x3) := zS bA.drew y3
   have yD0 : wc.drew.cell? ⟨q0, 0, none⟩ = some (.string x0) := y0
   have yD1 : wc.drew.cell? ⟨q0, 1, none⟩ = some (.int .i64 x1) := y1
   have yD2 : wc.drew.cell? ⟨q0, 2, none⟩ = some (.int .i64 x2) := y2
   have yD3 : wc.drew.cell? ⟨q0, 3, none⟩ = some (.string x3) := y3
   have nA := newsTakeE (OC.below bA.drew) k hkl
   have nAB := newsTakeE (OC.below bA2.drew) k hkl
   have nBA := newsTakeE (OC.below bC2.drew) k hkl
   have cAB : ∀ j u, (ocells [(x0, x1, x2, x3)])[j]? = some u -> ((wc.alloc (.cells #[] 106)).alloc (.cells #[.string x0, .int .i64 x1, .int .i64 x2, .string x3] 106)).drew.cell? ((⟨z + 1, 0, none⟩ : Addr).add j) = some u := by
    have h9 := newE (wc.alloc (.cells #[] 106)) (x0, x1, x2, x3)
    rw [World.size_alloc, hzz] at h9
    exact h9
   have cBA : ∀ j u, (ocells [(x0, x1, x2, x3)])[j]? = some u -> ((wc.alloc (.cells #[.string x0, .int .i64 x1, .int .i64 x2, .string x3] 106)).alloc (.cells #[] 106)).drew.cell? ((⟨z, 0, none⟩ : Addr).add j) = some u := by
    have h9 := newE wc (x0, x1, x2, x3)
    rw [hzz] at h9
    exact newsBelowE bBA.drew h9
   have hlt : (ocells (T.take k)).length = k * 4 := by rw [ocells_length, List.length_take]; omega
   have hld : (ocells (T.drop k)).length = (T.length - k) * 4 := by rw [ocells_length, List.length_drop]
   by_cases hcc : k = c
   ·have e0 : T.drop k = [] := List.drop_eq_nil_of_le (by omega)
    have nD : ∀ (W : World) i u, (ocells (T.drop k))[i]? = some u -> W.cell? ((⟨g, 0, none⟩ : Addr).add i) = some u := fun W i u hu => by
     have := ocells_ltE hu
     rw [e0] at this
     simp at this
    have hld0 : (ocells (T.drop k)).length = 0 * 4 := by rw [e0]; rfl
    have nDA := nD (wc.alloc (.cells #[] 106)).drew
    have nDB := nD ((wc.alloc (.cells #[] 106)).alloc (.cells #[.string x0, .int .i64 x1, .int .i64 x2, .string x3] 106)).drew
    have nDC := nD ((wc.alloc (.cells #[.string x0, .int .i64 x1, .int .i64 x2, .string x3] 106)).alloc (.cells #[] 106)).drew
    subst hcc
    clear nD e0 bA bAB bC bBA bA2 bC2 oA0 OC BW
    go_wp2_with fail
    go_region_law (first
      | (have gd := p5; clear gd; refine stepApp rfl (.tmp 52) (.tmp 55) 28 rfl z 106 i0 (.agg #[.string ⟨#[]⟩, .int .i64 0, .int .i64 0, .string ⟨#[]⟩]) 4 48 Tryz.underlying28 hi hz0 hz1 hz2 rfl (by decide) (.slice ua (k + 1) uc) _ _ rfl p5 ⟨g, 0, none⟩ 0 _ (ocells (T.drop k)) rfl hld0 D5 (oneE _) (by unfold maxLen; omega) (by omega) z5 ?_; intro v7 w7 p7 g7 _; have B7 := B5.grown g7 (Nat.le_trans hbz z5) (fun i hi => Nat.le_trans hbz (p5.lt i hi).1))
      | (have gd := mkA; clear gd; refine stepApp rfl (.tmp 49) (.tmp 51) 28 rfl z 106 i0 (.agg #[.string ⟨#[]⟩, .int .i64 0, .int .i64 0, .string ⟨#[]⟩]) 4 48 Tryz.underlying28 hi hz0 hz1 hz2 rfl (by decide) (.slice va k vc) _ _ rfl pB ⟨w3.heap.size, 0, none⟩ 1 _ (ocells [(x0, x1, x2, x3)]) rfl (ocells_length _) nB (oneE _) (by unfold maxLen; omega) (by omega) zB ?_; intro v5 w5 p5 g5 _; obtain ⟨ua, uc, rfl⟩ := shapeK3 p5; have z5 := Nat.le_trans zB g5.size; have B5 := B4.grown g5 (Nat.le_trans hbz zB) (fun i hi => Nat.le_trans hbz (pB.lt i hi).1); have D5 := newsKeepE g5 (neX pB) D4)
      | (have gd := mkB; clear gd; refine stepApp rfl (.tmp 49) (.tmp 51) 28 rfl z 106 i0 (.agg #[.string ⟨#[]⟩, .int .i64 0, .int .i64 0, .string ⟨#[]⟩]) 4 48 Tryz.underlying28 hi hz0 hz1 hz2 rfl (by decide) (.slice va k vc) _ _ rfl p3 ⟨z + 1, 0, none⟩ 1 _ (ocells [(x0, x1, x2, x3)]) rfl (ocells_length _) nC (oneE _) (by unfold maxLen; omega) (by omega) zC ?_; intro v5 w5 p5 g5 _; obtain ⟨ua, uc, rfl⟩ := shapeK3 p5; have z5 := Nat.le_trans zC g5.size; have B5 := B3.grown g5 (Nat.le_trans hbz zC) (fun i hi => Nat.le_trans hbz (p3.lt i hi).1); have D5 := newsKeepE g5 (neX p3) D3)
      | (have gd := mkC; clear gd; refine stepApp rfl (.tmp 49) (.tmp 51) 28 rfl z 106 i0 (.agg #[.string ⟨#[]⟩, .int .i64 0, .int .i64 0, .string ⟨#[]⟩]) 4 48 Tryz.underlying28 hi hz0 hz1 hz2 rfl (by decide) (.slice va k vc) _ _ rfl p3 ⟨z, 0, none⟩ 1 _ (ocells [(x0, x1, x2, x3)]) rfl (ocells_length _) nE (oneE _) (by unfold maxLen; omega) (by omega) zE ?_; intro v5 w5 p5 g5 _; obtain ⟨ua, uc, rfl⟩ := shapeK3 p5; have z5 := Nat.le_trans zE g5.size; have B5 := B3.grown g5 (Nat.le_trans hbz zE) (fun i hi => Nat.le_trans hbz (p3.lt i hi).1); have D5 := newsKeepE g5 (neX p3) D3)
      | (refine stepApp rfl (.tmp 45) (.tmp 48) 28 rfl z 106 i0 (.agg #[.string ⟨#[]⟩, .int .i64 0, .int .i64 0, .string ⟨#[]⟩]) 4 48 Tryz.underlying28 hi hz0 hz1 hz2 rfl (by decide) (.slice (some ⟨z, 0, none⟩) 0 0) _ _ rfl oA ⟨g, 0, none⟩ k _ (ocells (T.take k)) rfl hlt nA (oneE _) (by unfold maxLen; omega) (by omega) zA ?_; intro v3 w3 p3 g3' _; replace p3 := zaddE p3; obtain ⟨va, vc, rfl⟩ := shapeK3 p3; have mkA := p3; have zz3 := g3'.size; have B3 := BA.grown g3' (Nat.le_trans hbz zA) (fun i hi => Nat.le_trans hbz (oA.lt i hi).1); have D3 := newsKeepE g3' (neX oA) nDA; have y0 := g3'.cell y0A (neQ oA); have y1 := g3'.cell y1A (neQ oA); have y2 := g3'.cell y2A (neQ oA); have y3 := g3'.cell y3A (neQ oA); have pB := p3.kept (grownOfBelow (allocBelow w3 (.cells #[.string x0, .int .i64 x1, .int .i64 x2, .string x3] 106)) none) (blockCases _ _ fun b c1 c2 => by cases c2); have nB := newE w3 (x0, x1, x2, x3); have zB : z <= (w3.alloc (.cells #[.string x0, .int .i64 x1, .int .i64 x2, .string x3] 106)).heap.size := Nat.le_trans (Nat.le_trans zA zz3) (allocBelow w3 (.cells #[.string x0, .int .i64 x1, .int .i64 x2, .string x3] 106)).size; have B4 := B3.trans ((allocBelow w3 (.cells #[.string x0, .int .i64 x1, .int .i64 x2, .string x3] 106)).mono (Nat.le_trans hbz (Nat.le_trans zA zz3))); have D4 := newsBelowE (allocBelow w3 (.cells #[.string x0, .int .i64 x1, .int .i64 x2, .string x3] 106)) D3)
      | (refine stepApp rfl (.tmp 45) (.tmp 48) 28 rfl z 106 i0 (.agg #[.string ⟨#[]⟩, .int .i64 0, .int .i64 0, .string ⟨#[]⟩]) 4 48 Tryz.underlying28 hi hz0 hz1 hz2 rfl (by decide) (.slice (some ⟨z, 0, none⟩) 0 0) _ _ rfl oAB ⟨g, 0, none⟩ k _ (ocells (T.take k)) rfl hlt nAB (oneE _) (by unfold maxLen; omega) (by omega) zAB ?_; intro v3 w3 p3 g3' _; replace p3 := zaddE p3; obtain ⟨va, vc, rfl⟩ := shapeK3 p3; have mkB := p3; have zz3 := g3'.size; have B3 := BAB.grown g3' (Nat.le_trans hbz zAB) (fun i hi => Nat.le_trans hbz (oAB.lt i hi).1); have D3 := newsKeepE g3' (neX oAB) nDB; have nC := newsKeepE (o := 0) g3' (neSE z) cAB; have zC := Nat.le_trans zAB zz3)
      | (refine stepApp rfl (.tmp 45) (.tmp 48) 28 rfl z 106 i0 (.agg #[.string ⟨#[]⟩, .int .i64 0, .int .i64 0, .string ⟨#[]⟩]) 4 48 Tryz.underlying28 hi hz0 hz1 hz2 rfl (by decide) (.slice (some ⟨z + 1, 0, none⟩) 0 0) _ _ rfl oBA ⟨g, 0, none⟩ k _ (ocells (T.take k)) rfl hlt nBA (oneE _) (by unfold maxLen; omega) (by omega) zBA ?_; intro v3 w3 p3 g3' _; replace p3 := zaddE p3; obtain ⟨va, vc, rfl⟩ := shapeK3 p3; have mkC := p3; have zz3 := g3'.size; have B3 := BBA.grown g3' (Nat.le_trans hbz zBA) (fun i hi => Nat.le_trans hbz (oBA.lt i hi).1); have D3 := newsKeepE g3' (neX oBA) nDC; have nE := newsKeepE (o := 0) g3' (neTE z) cBA; have zE := Nat.le_trans zBA zz3))
    all_goals
     replace p7 : w7.ownsRow z 106 4 v7 (k + 1) _ := p7
     have hpos : 0 < k + 1 := by omega
     obtain ⟨tg, tc, rfl⟩ : ∃ tg tc, v7 = .slice (some ⟨tg, 0, none⟩) (k + 1) tc := by
      rcases p7.2 with ⟨_, h0⟩ | ⟨tg, tc, cur, e, _⟩
      ·omega
      ·exact ⟨tg, tc, e⟩
     have e1 : T.length + 1 = k + 1 := by omega
     have HQ : Hid (PutP (insL T (pe T (x0, x1, x2, x3)) (x0, x1, x2, x3)) w (.returned (.slice (some ⟨tg, 0, none⟩) (k + 1) tc)) w7) := by
      rw [hK.out]
      refine ⟨tg, tc, by rw [insL_length T k (x0, x1, x2, x3) hkl, e1], ?_, by rw [hq0]; exact B7⟩
      have e2 : ocells (insL T k (x0, x1, x2, x3)) = ocells (T.take k) ++ ocells [(x0, x1, x2, x3)] ++ ocells (T.drop k) := by unfold insL; rw [ocells_app, ocells_app, List.append_assoc]
      rw [insL_length T k (x0, x1, x2, x3) hkl, e1, e2]
      exact ownMonoF p7 (by omega)
     clear p7 g7 p5 g5 p3 g3' B7 B5 B3 e1
     go_wp2
     go_ret
     exact HQ.out
   ·have qcc : ¬ (c : Int) = (k : Int) := by omega
    have qcn : ¬ c = k := fun e => hcc e.symm
    have nDA := newsDropE (OC.below bA.drew) k hkl
    have nDB := newsDropE (OC.below bA2.drew) k hkl
    have nDC := newsDropE (OC.below bC2.drew) k hkl
    clear bA bAB bC bBA bA2 bC2 oA0 OC BW
    go_wp2_with fail
    go_region_law (first
      | (have gd := p5; clear gd; refine stepApp rfl (.tmp 52) (.tmp 55) 28 rfl z 106 i0 (.agg #[.string ⟨#[]⟩, .int .i64 0, .int .i64 0, .string ⟨#[]⟩]) 4 48 Tryz.underlying28 hi hz0 hz1 hz2 rfl (by decide) (.slice ua (k + 1) uc) _ _ rfl p5 ⟨g, k * 4, none⟩ (T.length - k) _ (ocells (T.drop k)) rfl hld D5 (oneE _) (by unfold maxLen; omega) (by omega) z5 ?_; intro v7 w7 p7 g7 _; have B7 := B5.grown g7 (Nat.le_trans hbz z5) (fun i hi => Nat.le_trans hbz (p5.lt i hi).1))
      | (have gd := mkA; clear gd; refine stepApp rfl (.tmp 49) (.tmp 51) 28 rfl z 106 i0 (.agg #[.string ⟨#[]⟩, .int .i64 0, .int .i64 0, .string ⟨#[]⟩]) 4 48 Tryz.underlying28 hi hz0 hz1 hz2 rfl (by decide) (.slice va k vc) _ _ rfl pB ⟨w3.heap.size, 0, none⟩ 1 _ (ocells [(x0, x1, x2, x3)]) rfl (ocells_length _) nB (oneE _) (by unfold maxLen; omega) (by omega) zB ?_; intro v5 w5 p5 g5 _; obtain ⟨ua, uc, rfl⟩ := shapeK3 p5; have z5 := Nat.le_trans zB g5.size; have B5 := B4.grown g5 (Nat.le_trans hbz zB) (fun i hi => Nat.le_trans hbz (pB.lt i hi).1); have D5 := newsKeepE g5 (neX pB) D4)
      | (have gd := mkB; clear gd; refine stepApp rfl (.tmp 49) (.tmp 51) 28 rfl z 106 i0 (.agg #[.string ⟨#[]⟩, .int .i64 0, .int .i64 0, .string ⟨#[]⟩]) 4 48 Tryz.underlying28 hi hz0 hz1 hz2 rfl (by decide) (.slice va k vc) _ _ rfl p3 ⟨z + 1, 0, none⟩ 1 _ (ocells [(x0, x1, x2, x3)]) rfl (ocells_length _) nC (oneE _) (by unfold maxLen; omega) (by omega) zC ?_; intro v5 w5 p5 g5 _; obtain ⟨ua, uc, rfl⟩ := shapeK3 p5; have z5 := Nat.le_trans zC g5.size; have B5 := B3.grown g5 (Nat.le_trans hbz zC) (fun i hi => Nat.le_trans hbz (p3.lt i hi).1); have D5 := newsKeepE g5 (neX p3) D3)
      | (have gd := mkC; clear gd; refine stepApp rfl (.tmp 49) (.tmp 51) 28 rfl z 106 i0 (.agg #[.string ⟨#[]⟩, .int .i64 0, .int .i64 0, .string ⟨#[]⟩]) 4 48 Tryz.underlying28 hi hz0 hz1 hz2 rfl (by decide) (.slice va k vc) _ _ rfl p3 ⟨z, 0, none⟩ 1 _ (ocells [(x0, x1, x2, x3)]) rfl (ocells_length _) nE (oneE _) (by unfold maxLen; omega) (by omega) zE ?_; intro v5 w5 p5 g5 _; obtain ⟨ua, uc, rfl⟩ := shapeK3 p5; have z5 := Nat.le_trans zE g5.size; have B5 := B3.grown g5 (Nat.le_trans hbz zE) (fun i hi => Nat.le_trans hbz (p3.lt i hi).1); have D5 := newsKeepE g5 (neX p3) D3)
      | (refine stepApp rfl (.tmp 45) (.tmp 48) 28 rfl z 106 i0 (.agg #[.string ⟨#[]⟩, .int .i64 0, .int .i64 0, .string ⟨#[]⟩]) 4 48 Tryz.underlying28 hi hz0 hz1 hz2 rfl (by decide) (.slice (some ⟨z, 0, none⟩) 0 0) _ _ rfl oA ⟨g, 0, none⟩ k _ (ocells (T.take k)) rfl hlt nA (oneE _) (by unfold maxLen; omega) (by omega) zA ?_; intro v3 w3 p3 g3' _; replace p3 := zaddE p3; obtain ⟨va, vc, rfl⟩ := shapeK3 p3; have mkA := p3; have zz3 := g3'.size; have B3 := BA.grown g3' (Nat.le_trans hbz zA) (fun i hi => Nat.le_trans hbz (oA.lt i hi).1); have D3 := newsKeepE g3' (neX oA) nDA; have y0 := g3'.cell y0A (neQ oA); have y1 := g3'.cell y1A (neQ oA); have y2 := g3'.cell y2A (neQ oA); have y3 := g3'.cell y3A (neQ oA); have pB := p3.kept (grownOfBelow (allocBelow w3 (.cells #[.string x0, .int .i64 x1, .int .i64 x2, .string x3] 106)) none) (blockCases _ _ fun b c1 c2 => by cases c2); have nB := newE w3 (x0, x1, x2, x3); have zB : z <= (w3.alloc (.cells #[.string x0, .int .i64 x1, .int .i64 x2, .string x3] 106)).heap.size := Nat.le_trans (Nat.le_trans zA zz3) (allocBelow w3 (.cells #[.string x0, .int .i64 x1, .int .i64 x2, .string x3] 106)).size; have B4 := B3.trans ((allocBelow w3 (.cells #[.string x0, .int .i64 x1, .int .i64 x2, .string x3] 106)).mono (Nat.le_trans hbz (Nat.le_trans zA zz3))); have D4 := newsBelowE (allocBelow w3 (.cells #[.string x0, .int .i64 x1, .int .i64 x2, .string x3] 106)) D3)
      | (refine stepApp rfl (.tmp 45) (.tmp 48) 28 rfl z 106 i0 (.agg #[.string ⟨#[]⟩, .int .i64 0, .int .i64 0, .string ⟨#[]⟩]) 4 48 Tryz.underlying28 hi hz0 hz1 hz2 rfl (by decide) (.slice (some ⟨z, 0, none⟩) 0 0) _ _ rfl oAB ⟨g, 0, none⟩ k _ (ocells (T.take k)) rfl hlt nAB (oneE _) (by unfold maxLen; omega) (by omega) zAB ?_; intro v3 w3 p3 g3' _; replace p3 := zaddE p3; obtain ⟨va, vc, rfl⟩ := shapeK3 p3; have mkB := p3; have zz3 := g3'.size; have B3 := BAB.grown g3' (Nat.le_trans hbz zAB) (fun i hi => Nat.le_trans hbz (oAB.lt i hi).1); have D3 := newsKeepE g3' (neX oAB) nDB; have nC := newsKeepE (o := 0) g3' (neSE z) cAB; have zC := Nat.le_trans zAB zz3)
      | (refine stepApp rfl (.tmp 45) (.tmp 48) 28 rfl z 106 i0 (.agg #[.string ⟨#[]⟩, .int .i64 0, .int .i64 0, .string ⟨#[]⟩]) 4 48 Tryz.underlying28 hi hz0 hz1 hz2 rfl (by decide) (.slice (some ⟨z + 1, 0, none⟩) 0 0) _ _ rfl oBA ⟨g, 0, none⟩ k _ (ocells (T.take k)) rfl hlt nBA (oneE _) (by unfold maxLen; omega) (by omega) zBA ?_; intro v3 w3 p3 g3' _; replace p3 := zaddE p3; obtain ⟨va, vc, rfl⟩ := shapeK3 p3; have mkC := p3; have zz3 := g3'.size; have B3 := BBA.grown g3' (Nat.le_trans hbz zBA) (fun i hi => Nat.le_trans hbz (oBA.lt i hi).1); have D3 := newsKeepE g3' (neX oBA) nDC; have nE := newsKeepE (o := 0) g3' (neTE z) cBA; have zE := Nat.le_trans zBA zz3))
    all_goals
     replace p7 : w7.ownsRow z 106 4 v7 (k + 1 + (T.length - k)) _ := p7
     have hpos : 0 < k + 1 + (T.length - k) := by omega
     obtain ⟨tg, tc, rfl⟩ : ∃ tg tc, v7 = .slice (some ⟨tg, 0, none⟩) (k + 1 + (T.length - k)) tc := by
      rcases p7.2 with ⟨_, h0⟩ | ⟨tg, tc, cur, e, _⟩
      ·omega
      ·exact ⟨tg, tc, e⟩
     have e1 : T.length + 1 = k + 1 + (T.length - k) := by omega
     have HQ : Hid (PutP (insL T (pe T (x0, x1, x2, x3)) (x0, x1, x2, x3)) w (.returned (.slice (some ⟨tg, 0, none⟩) (k + 1 + (T.length - k)) tc)) w7) := by
      rw [hK.out]
      refine ⟨tg, tc, by rw [insL_length T k (x0, x1, x2, x3) hkl, e1], ?_, by rw [hq0]; exact B7⟩
      have e2 : ocells (insL T k (x0, x1, x2, x3)) = ocells (T.take k) ++ ocells [(x0, x1, x2, x3)] ++ ocells (T.drop k) := by unfold insL; rw [ocells_app, ocells_app, List.append_assoc]
      rw [insL_length T k (x0, x1, x2, x3) hkl, e1, e2]
      exact ownMonoF p7 (by omega)
     clear p7 g7 p5 g5 p3 g3' B7 B5 B3 e1
     go_wp2
     go_ret
     exact HQ.out
end Go.Proofs.YtgincoiehbdphaaGreatDoor.En
set_option linter.unusedVariables false
namespace Go.Proofs.YtgincoiehbdphaaGreatDoor.En
open Go.ChangeShapes Go.WideShapes Go.ChangeAt Go.RowKit
theorem litS (w : World) : (w.alloc (.cells #[] 106)).ownsRow w.heap.size 106 4 (.slice (some ⟨w.heap.size, 0, none⟩) 0 0) ([] : List Ob).length (ocells []) := World.ownsRow_lit w #[] 0 (Nat.le_refl _) (Nat.zero_le _) rfl
set_option maxRecDepth 20000 in
set_option maxHeartbeats 4000000 in
theorem l10ResolveC (a : Option Addr) (c : Nat) (l : List Ob) (p : ByteArray) (m : Int) (i : ByteArray) (w : World) (h : OB w.heap.size w a l) (h0 : ixf l = 0) :
  Calls Tryz.prog 61 #[.slice a l.length c, .string p, .int .i64 m, .string i] w fun e w' => PutP (rsU l p m i) w e w' := by
 obtain ⟨hn, hst⟩ := ixf_zero h0
 have hRi : Hid (Rise (rsF l p)) := rs_rise h0 p
 have hAp : Hid (Apart (rsF l p) (p, 0, m, i)) := rs_apart l p 0 m i
 obtain ⟨q, hq⟩ : ∃ q, w.heap.size = q := ⟨_, rfl⟩
 have HQ : Hid (w.heap.size = q) := hq
 obtain ⟨W0, hW0⟩ : ∃ W, w.alloc (.cells #[] 106) = W := ⟨_, rfl⟩
 have b0 : Below q w W0 := by rw [<- hW0, <- hq]; exact allocBelow _ _
 have o0 : W0.ownsRow q 106 4 (.slice (some ⟨q, 0, none⟩) (rsF (l.take 0) p).length 0) (rsF (l.take 0) p).length (ocells (rsF (l.take 0) p)) := by rw [<- hW0, <- hq]; exact litS w
 rw [hq] at h
 clear h0 hst
 go_enter Tryz.func61, Tryz.ntmps61
 go_wp2
 clear hW0 hq
 go_loopw [9, 10] (fun o i wr => ∃ (k tg tc : Nat), k <= l.length /\ i = .int .i64 k /\ o = .slice (some ⟨tg, 0, none⟩) (rsF (l.take k) p).length tc /\ wr.ownsRow q 106 4 (.slice (some ⟨tg, 0, none⟩) (rsF (l.take k) p).length tc) (rsF (l.take k) p).length (ocells (rsF (l.take k) p)) /\ Below q w wr) (fun _ i _ => l.length - (intOf i).toNat)
 case atStart => exact ⟨0, q, 0, Nat.zero_le _, rfl, rfl, o0, b0⟩
 case round =>
  obtain ⟨k, tg, tc, hk, rfl, rfl, ho, hbel⟩ := hrel
  clear o0 b0
  have hsz : q <= wr.heap.size := by have := hbel.size; have := HQ.out; omega
  by_cases hlt : k < l.length
  ·have qk : (k : Int) < (l.length : Int) := by omega
   obtain ⟨g, off, e, hg, d0, d1, d2, d3⟩ := (obBelowAt h hbel (Nat.le_refl _)) k hlt
   subst e
   have hy := rsF_yes l p k hlt
   have hno := rsF_no l p k hlt
   have hln := rsF_len l p k
   obtain ⟨C, hCe⟩ : ∃ C, l.getD k onil = C := ⟨_, rfl⟩
   obtain ⟨x0, x1, x2, x3⟩ := C
   rw [hCe] at d0 d1 d2 d3 hy hno
   simp only [] at d0 d1 d2 d3 hy hno
   obtain ⟨T, hTe⟩ : ∃ T, rsF (l.take k) p = T := ⟨_, rfl⟩
   rw [hTe] at ho hy hno hln ⊢
   clear hCe hTe
   by_cases hx : x0 = p
   ·have HN : Hid (rsF (l.take (k + 1)) p = T) := hno hx
    have hb : (x0.toList == p.toList) = true := beq_bytes_true hx
    have O1 : Hid (wr.ownsRow q 106 4 (.slice (some ⟨tg, 0, none⟩) T.length tc) T.length (ocells T)) := ho
    clear hy hno ho hx
    go_wp2
    go_roundw
    case rel => exact ⟨k + 1, tg, tc, by omega, by go_num, by rw [HN.out], by rw [HN.out]; exact O1.out, hbel⟩
    case measure => first | (simp [intOf]; omega) | simp [intOf]
   ·have HY : Hid (rsF (l.take (k + 1)) p = T ++ [(x0, x1, x2, x3)]) := hy hx
    have hb : (x0.toList == p.toList) = false := beq_bytes_false hx
    have bN := allocBelow wr (.cells #[.string x0, .int .i64 x1, .int .i64 x2, .string x3] 106)
    have o4 := ho.kept (grownOfBelow bN none) (blockCases _ _ fun b c1 c2 => by cases c2)
    have nw := newE wr (x0, x1, x2, x3)
    have B4 : Below q w (wr.alloc (.cells #[.string x0, .int .i64 x1, .int .i64 x2, .string x3] 106)) := hbel.trans (bN.mono hsz)
    have z4 : q <= (wr.alloc (.cells #[.string x0, .int .i64 x1, .int .i64 x2, .string x3] 106)).heap.size := Nat.le_trans hsz bN.size
    clear hy hno ho hx bN hbel
    go_wp2_with (at_builtin; refine wpList_appE rfl (.tmp 25) (.tmp 30) rfl q (.slice (some ⟨tg, 0, none⟩) T.length tc) _ rfl o4 _ _ [(x0, x1, x2, x3)] rfl nw (by simp; omega) z4 ?_; intro v5 w5 o5 g5 n5 k5)
    have B5 : Below q w w5 := B4.grown g5 z4 (fun j hj => (o4.lt j hj).1)
    have hl2 : (T ++ [(x0, x1, x2, x3)]).length = T.length + 1 := by simp
    obtain ⟨tg2, tc2, rfl⟩ : ∃ tg tc, v5 = .slice (some ⟨tg, 0, none⟩) (T ++ [(x0, x1, x2, x3)]).length tc := by
     rcases o5.2 with ⟨_, hh⟩ | ⟨g, c, cur, e, _⟩
     ·rw [hl2] at hh; omega
     ·exact ⟨g, c, e⟩
    have O5 : Hid (w5.ownsRow q 106 4 (.slice (some ⟨tg2, 0, none⟩) (T ++ [(x0, x1, x2, x3)]).length tc2) (T ++ [(x0, x1, x2, x3)]).length (ocells (T ++ [(x0, x1, x2, x3)]))) := o5
    clear o4 nw g5 n5 B4 o5 hl2
    go_wp2
    go_roundw
    case rel => exact ⟨k + 1, tg2, tc2, by omega, by go_num, by rw [HY.out], by rw [HY.out]; exact O5.out, B5⟩
    case measure => first | (simp [intOf]; omega) | simp [intOf]
  ·have qk : ¬ (k : Int) < (l.length : Int) := by omega
   have ek : l.take k = l := List.take_of_length_le (by omega)
   rw [ek] at ho ⊢
   have hRl := rsF_all l p
   by_cases hm : m = 0
   ·subst hm
    have HF : Hid (PutP (rsU l p 0 i) w (.returned (.slice (some ⟨tg, 0, none⟩) (rsF l p).length tc)) wr) := by
     show PutP (rsU l p 0 i) _ _ _
     rw [show rsU l p 0 i = rsF l p from if_pos rfl]
     exact ⟨tg, tc, rfl, by rw [HQ.out]; exact ho, by rw [HQ.out]; exact hbel⟩
    clear ho hbel ek
    go_wp2
    go_ret
    exact HF.out
   ·have qm : (m == 0) = false := beq_eq_false_iff_ne.2 hm
    have hgt := ho.lt tg rfl
    have hcap : (rsF l p).length <= tc := by
     rcases ho.2 with ⟨h', _⟩ | ⟨g', c', cur, h', hb, hh, h1, h2, h3, h4⟩
     ·cases h'
     ·simp only [Value.slice.injEq] at h'; omega
    have hP := l10PutC tg tc (rsF l p) (p, 0, m, i) wr (OB.of ho) (by omega) hcap (by omega) hRi.out hAp.out
    have HU : Hid (rsU l p m i = insL (rsF l p) (pe (rsF l p) (p, 0, m, i)) (p, 0, m, i)) := if_neg hm
    rw [<- HU.out] at hP
    simp only [] at hP
    clear ho hRi hAp hm ek
    go_wp2_with fail
    refine hP.mono ?_; rintro e w6 ⟨ug, uc, rfl, o6, b6⟩
    have HF : Hid (PutP (rsU l p m i) w (.returned (.slice (some ⟨ug, 0, none⟩) (rsU l p m i).length uc)) w6) := ⟨ug, uc, rfl, ownMonoF o6 (by rw [HQ.out]; omega), by rw [HQ.out]; exact hbel.trans (b6.mono hsz)⟩
    generalize (rsU l p m i).length = M at *
    clear o6 b6 hbel hP
    go_wp2
    go_ret
    exact HF.out
end Go.Proofs.YtgincoiehbdphaaGreatDoor.En
