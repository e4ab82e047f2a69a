/- The contract of spec.WeaveChanges. No statement is proved here. -/
import Derived.Test.YtidjcjeiigjmaahRows
import Derived.Test.YtidjcjeiigjmaahLem
import Derived.Test.YtidjcjeiigjmaahStrs
import Derived.Test.YtidjcjeiigjmaahLFLem
import Derived.Test.YtidjcjeiigjmaahLF
import Derived.Test.YtidjcjeiigjmaahCom
import Derived.Test.YtidjcjeiigjmaahAsked
import Derived.Test.YtidjcjeiigjmaahDTab
import Derived.Test.YtidjcjeiigjmaahFr
import Derived.Test.YtidjcjeiigjmaahChg
import Derived.Test.YtidjcjeiigjmaahCoC
import Derived.Test.YtidjcjeiigjmaahEdC
import Derived.Test.YtidjcjeiigjmaahCFC
import Derived.Test.YtidjcjeiigjmaahCFI
import Derived.Test.YtidjcjeiigjmaahCFS
import Derived.Test.YtidjcjeiigjmaahWvC
import Derived.Test.YtidjcjeiigjmaahWvL
import Derived.Test.YtidjcjeiigjmaahWvI
import Derived.Test.YtidjcjeiigjmaahWvF
import Derived.WalkKit
import Derived.ProofKit
import Derived.Below
import Derived.WalkSpells
import Derived.Maps.AppendAt
namespace Go.Proofs.Ytidjcjeiigjmaah
open Go.ChangeShapes Go.WideShapes Go.ChangeAt Go.RowKit

theorem newsOf {B : Nat} {w : World} {AD : Addr} {ss : List ByteArray} (h : SSB B w (some AD) ss) : ∀ j u, (ss.map Value.string)[j]? = some u → w.cell? (AD.add j) = some u := by
  intro j u hj
  have hl : j < ss.length := by have := (List.getElem?_eq_some_iff.1 hj).1; simpa using this
  obtain ⟨b, off, e, hb, hc⟩ := h.2 j hl
  simp only [Option.some.injEq] at e
  subst e
  rw [add_plain, hc, ← hj, getD_at ss j hl]
  simp [hl]
theorem segAddr {a : Option Addr} (ha : ∃ g, a = some ⟨g, 0, none⟩) (c P : Nat) : ∃ AD : Addr, (if c = P then a else Option.map (fun x => x.add P) a) = some AD := by
  obtain ⟨g, rfl⟩ := ha
  by_cases h : c = P
  · exact ⟨_, if_pos h⟩
  · exact ⟨_, by rw [if_neg h]; rfl⟩
theorem oneStr (ss : List ByteArray) : ∀ u ∈ ss.map Value.string, u.oneCell' = true := by
  intro u hu
  obtain ⟨x, _, rfl⟩ := List.mem_map.1 hu
  rfl
theorem mapApp (xs ys : List ByteArray) : xs.map Value.string ++ ys.map Value.string = (xs ++ ys).map Value.string := by rw [List.map_append]

theorem ownLen {w : World} {base : Nat} {e : TypeId} {v : Value} {n : Nat} {xs : List Value} (h : w.ownsRow base e 1 v n xs) : w.ownsRow base e 1 v xs.length xs := by
  have h1 := h.1
  have e : n = xs.length := by omega
  rw [← e]; exact h
theorem vbOf {u v : Value} {B n m : Nat} (hu : ∀ j, u.ownBlock = some j → B ≤ j ∧ j < n) (hk : v.ownBlock = u.ownBlock ∨ v.ownBlock = some m) (hnm : n < m) (hl : ∀ j, v.ownBlock = some j → B ≤ j) : ∀ j, v.ownBlock = some j → B ≤ j ∧ j ≠ n := by
  intro j hj
  refine ⟨hl j hj, ?_⟩
  rcases hk with h | h
  · rw [h] at hj; have := (hu j hj).2; omega
  · rw [h] at hj; simp only [Option.some.injEq] at hj; omega
theorem weave_tot {xs ys : List ByteArray} {l : List Chg} (h : cf xs.length ys.length l = 0) (m1 : xs.length ≤ 100) (m2 : ys.length ≤ 100) (y1 : ∀ x ∈ xs, x.size ≤ 2000) (y2 : ∀ x ∈ ys, x.size ≤ 2000) : tot (weave xs ys l) ≤ 1048576 := by
  have hl := weave_length h
  have hb := tot_bound (ss := weave xs ys l) (Z := 2000) (fun x hx => by
    rcases weave_mem hx with h | h
    · exact y1 x h
    · exact y2 x h)
  have : (weave xs ys l).length * 2000 ≤ 200 * 2000 := Nat.mul_le_mul_right _ (by omega)
  omega

set_option maxRecDepth 20000 in
set_option maxHeartbeats 4000000 in
theorem specWeave (a1 a2 a3 : Option Addr) (c1 c2 c3 : Nat) (xs ys : List ByteArray) (l : List Chg) (w : World) (h1 : SS w a1 xs) (h2 : SS w a2 ys) (h3 : CB w.heap.size w a3 l) (k1 : xs.length ≤ c1) (k2 : ys.length ≤ c2) (n1 : xs.length ≤ 1048576) (n2 : ys.length ≤ 1048576) (n3 : l.length ≤ 1048576)
    (z1 : ∀ x ∈ xs, x.size ≤ 1048576) (z2 : ∀ x ∈ ys, x.size ≤ 1048576) (ha1 : ∃ g, a1 = some ⟨g, 0, none⟩) (ha2 : ∃ g, a2 = some ⟨g, 0, none⟩) (t1 : tot xs ≤ 1048576) (t2 : tot ys ≤ 1048576) (y1 : ∀ x ∈ xs, x.size ≤ 2000) (y2 : ∀ x ∈ ys, x.size ≤ 2000) (h0 : cfa xs ys l = 0) (hb0 : cf xs.length ys.length l = 0) (m1 : xs.length ≤ 100) (m2 : ys.length ≤ 100) :
    Calls Try.prog 22 #[.slice a1 xs.length c1, .slice a2 ys.length c2, .slice a3 l.length c3] w fun e w' => LP (lf (weave xs ys l)) (if lf (weave xs ys l) = 0 then weave xs ys l else []) w e w' := by
  obtain ⟨i0, hi, hz0, hz1, hz2⟩ := info_parts infoString
  obtain ⟨RR, hRR⟩ : ∃ R, lf (weave xs ys l) = R := ⟨_, rfl⟩
  obtain ⟨LL, hLL⟩ : ∃ L, (if RR = 0 then weave xs ys l else []) = L := ⟨_, rfl⟩
  have HRR : Hid (lf (weave xs ys l) = RR) := hRR
  have HLL : Hid ((if RR = 0 then weave xs ys l else []) = LL) := hLL
  rw [hRR, hLL]
  clear hRR hLL
  have hA := fun w h1 h2 h3 => specChangesFault w.heap.size a1 a2 a3 c1 c2 c3 xs ys l w h1 h2 h3 n1 t1 n2 t2 n3
  rw [h0] at hA
  go_enter Try.func22, Try.ntmps22
  go_wp2_with fail
  obtain ⟨W1, hW1⟩ : ∃ W1, w.alloc (.cells #[.int .i64 0, .slice none 0 0] 39) = W1 := ⟨_, rfl⟩
  have b1 : Below w.heap.size w W1 := by rw [← hW1]; exact allocBelow _ _
  have zW : w.heap.size < W1.heap.size := by rw [← hW1]; simp
  have r1 : Res2 W1 w.heap.size (.int .i64 0) (.slice none 0 0) := by rw [← hW1]; exact Res2.new _ _ _ _
  rw [hW1]
  clear hW1
  have s1 := h1.below b1
  have s2 := h2.below b1
  have s3 := h3.below b1
  refine (hA _ s1 s2 (fun k hk => by obtain ⟨g, off, e, hg, r⟩ := s3 k hk; exact ⟨g, off, e, by omega, r⟩)).mono ?_; rintro e w2 ⟨rfl, b2⟩
  have A1 : SSB w.heap.size w2 a1 xs := (h1.toB.below b1).below b2
  have A2 : SSB w.heap.size w2 a2 ys := (h2.toB.below b1).below b2
  have A3 := s3.below b2
  have r2 := r1.below zW b2
  have BB := b1.trans (b2.mono b1.size)
  have hzz := b2.size
  clear s1 s2 s3 h1 h2 h3 hA r1 b1 b2
  go_wp2
  go_loopw [8, 9, 10] (fun u va vk wr => ∃ k : Nat, k ≤ l.length ∧ vk = .int .i64 (k : Int) ∧ va = .int .i64 (stA l k) ∧ wr.ownsRow w2.heap.size 9 1 u (wv xs ys l k).length ((wv xs ys l k).map Value.string) ∧ Below w2.heap.size w2 wr) (fun _ _ vk _ => l.length - (intOf vk).toNat)
  case atStart => exact ⟨0, Nat.zero_le _, rfl, rfl, World.ownsRow_lit w2 #[] 0 (Nat.le_refl _) (Nat.zero_le _) rfl, (Below.refl _ _).alloc (Nat.le_refl _) _⟩
  case round =>
    obtain ⟨k, hk, rfl, rfl, hown, hbel⟩ := hrel
    have hsz := hbel.size
    by_cases hlt : k < l.length
    · have q : (k : Int) < (l.length : Int) := by omega
      obtain ⟨g, off, e, hg, d0, d1, d2, d3⟩ := A3.below hbel k hlt
      subst e
      have hnm := cf_nums hb0 k hlt
      have hwl := wv_length hb0 k hk
      have hws := wv_succ xs ys l k
      obtain ⟨C, hCe⟩ : ∃ C, l.getD k (0, 0, 0, 0) = C := ⟨_, rfl⟩
      obtain ⟨x0, x1, x2, x3⟩ := C
      rw [hCe] at d0 d1 d2 d3 hnm hws
      simp only [] at d0 d1 d2 d3 hnm hws
      obtain ⟨P, hP⟩ : ∃ P : Nat, stA l k = (P : Int) := ⟨(stA l k).toNat, by omega⟩
      obtain ⟨X0, rfl⟩ : ∃ X : Nat, x0 = (X : Int) := ⟨x0.toNat, by omega⟩
      obtain ⟨X2, rfl⟩ : ∃ X : Nat, x2 = (X : Int) := ⟨x2.toNat, by omega⟩
      obtain ⟨X3, rfl⟩ : ∃ X : Nat, x3 = (X : Int) := ⟨x3.toNat, by omega⟩
      rw [hP] at hnm hwl hws ⊢
      clear hCe hP
      rw [part_nat, show ((X2 : Int) + (X3 : Int)) = ((X2 + X3 : Nat) : Int) by omega, part_nat] at hws
      obtain ⟨A, hA⟩ := segAddr ha1 c1 P
      obtain ⟨D, hD⟩ := segAddr ha2 c2 X2
      have hF0 : Fr w2.heap.size w2.heap.size w2 wr := Fr.ofBelow hbel
      have hs1 := segSSB (hF0.ssb A1 (by omega)) P X0 c1 (by omega) (by omega) k1
      have hs2 := segSSB (hF0.ssb A2 (by omega)) X2 (X2 + X3) c2 (by omega) (by omega) k2
      rw [hA] at hs1
      rw [hD] at hs2
      have hl1 : ((xs.drop P).take (X0 - P)).length = X0 - P := by rw [List.length_take, List.length_drop]; omega
      have hl2 : ((ys.drop X2).take (X2 + X3 - X2)).length = X3 := by rw [List.length_take, List.length_drop]; omega
      have hq1 := seg_small z1 P X0
      have hq2 := seg_small z2 X2 (X2 + X3)
      obtain ⟨S0, hS0⟩ : ∃ S, wv xs ys l k = S := ⟨_, rfl⟩
      obtain ⟨S1, hS1⟩ : ∃ S, (xs.drop P).take (X0 - P) = S := ⟨_, rfl⟩
      obtain ⟨S2, hS2⟩ : ∃ S, (ys.drop X2).take (X2 + X3 - X2) = S := ⟨_, rfl⟩
      rw [hS0, hS1, hS2] at hws
      rw [hS0] at hown hwl
      rw [hS1] at hs1 hl1 hq1
      rw [hS2] at hs2 hl2 hq2
      have HW : Hid (wv xs ys l (k + 1) = S0 ++ S1 ++ S2) := hws
      have HA1 : Hid (stA l (k + 1) = (X0 : Int) + x1) := by have := hnm; show _ = _; omega
      have hx1 : (X0 : Int) + x1 ≤ 100 ∧ 0 ≤ (X0 : Int) + x1 := by omega
      obtain ⟨hx2, hx3⟩ := hx1
      have e1 : (P : Int) ≤ (X0 : Int) := by omega
      have e2 : (X0 : Int) ≤ (xs.length : Int) := by omega
      have e3 : (X2 : Int) + (X3 : Int) ≤ (ys.length : Int) := by omega
      have hb1 : S0.length + S1.length ≤ 1048576 := by omega
      have hb2 : (S0 ++ S1).length + S2.length ≤ 1048576 := by rw [List.length_append]; omega
      clear hws hnm hS0 hS1 hS2 hF0
      have hs1 := hs1.mono (show w.heap.size ≤ w2.heap.size by omega)
      have hs2 := hs2.mono (show w.heap.size ≤ w2.heap.size by omega)
      have hub : ∀ j, u8.ownBlock = some j → w2.heap.size ≤ j ∧ j < wr.heap.size := fun j hj => hown.lt j hj
      obtain ⟨W, hW⟩ : ∃ W, wr.alloc (.cells #[.int .i64 (X0 : Int), .int .i64 x1, .int .i64 (X2 : Int), .int .i64 (X3 : Int)] 68) = W := ⟨_, rfl⟩
      have hR : Rs W wr.heap.size [.int .i64 (X0 : Int), .int .i64 x1, .int .i64 (X2 : Int), .int .i64 (X3 : Int)] := by rw [← hW]; exact Rs.new _ _ _
      have FW : Fr w2.heap.size w2.heap.size wr W := by rw [← hW]; exact Fr.ofAlloc _ _
      have zR : wr.heap.size < W.heap.size := by rw [← hW]; simp
      have oW := FW.own hown (fun j hj => by have := hub j hj; omega)
      have bW := FW.below hbel (Nat.le_refl _) hsz
      have hn1 := newsOf (FW.ssb hs1 (Nat.le_refl _))
      have hl1' : (S1.map Value.string).length = (X0 - P) * 1 := by rw [List.length_map, hl1, Nat.mul_one]
      have hb1' : S0.length + (X0 - P) ≤ 1048576 := by omega
      have zW2 : w2.heap.size ≤ W.heap.size := by omega
      have hl2' : (S2.map Value.string).length = X3 * 1 := by rw [List.length_map, hl2, Nat.mul_one]
      have hb2' : (S0 ++ S1).length + X3 ≤ 1048576 := by omega
      have hS2W := FW.ssb hs2 (Nat.le_refl _)
      have HW2 : Hid (wr.alloc (.cells #[.int .i64 (X0 : Int), .int .i64 x1, .int .i64 (X2 : Int), .int .i64 (X3 : Int)] 68) = W) := hW
      clear hW hs1 hs2 hown
      go_wp2_with (first | (at_builtin; rw [HW2.out]; refine wpList_append_own_at _ rfl (.tmp 32) (.tmp 37) 22 rfl w2.heap.size 9 i0 (.string ByteArray.empty) 1 16 Try.underlying22 hi hz0 hz1 hz2 rfl (by decide) _ _ _ rfl oW A (X0 - P) _ (S1.map Value.string) rfl hl1' hn1 (oneStr _) (by unfold maxLen; omega) (by omega) zW2 ?_; intro v1 w3 o1 g1 _ u1; rw [← hl1, ← List.length_append, mapApp] at o1; have f0 := g1.cell (hR 0 _ rfl) (fun e => by have := (hub _ e.symm).2; simp at this); have f1 := g1.cell (hR 1 _ rfl) (fun e => by have := (hub _ e.symm).2; simp at this); have f2 := g1.cell (hR 2 _ rfl) (fun e => by have := (hub _ e.symm).2; simp at this); have f3 := g1.cell (hR 3 _ rfl) (fun e => by have := (hub _ e.symm).2; simp at this); have hn2 := newsOf (hS2W.grown g1 (fun j hj => (hub j hj).1)); have b3 : Below w2.heap.size w2 w3 := bW.grown g1 (by omega) (fun j hj => (hub j hj).1); have z3 := g1.size; have hvb : ∀ j, v1.ownBlock = some j → w2.heap.size ≤ j ∧ j ≠ wr.heap.size := vbOf hub u1 zR (fun j hj => (o1.lt j hj).1); have zW3 : w2.heap.size ≤ w3.heap.size := by omega) | (at_builtin; refine wpList_append_own_at _ rfl (.tmp 39) (.tmp 48) 22 rfl w2.heap.size 9 i0 (.string ByteArray.empty) 1 16 Try.underlying22 hi hz0 hz1 hz2 rfl (by decide) _ _ _ rfl o1 D _ _ (S2.map Value.string) rfl (by rw [List.length_map, hl2]; omega) hn2 (oneStr _) (by unfold maxLen; omega) (by omega) zW3 ?_; intro v2 w4 o2 g2 _ u2; replace o2 := ownLen o2; rw [mapApp, List.length_map] at o2; have e0 := g2.cell f0 (fun e => (hvb _ e.symm).2 rfl); have e1' := g2.cell f1 (fun e => (hvb _ e.symm).2 rfl)))
      have HB : Hid (Below w2.heap.size w2 w4) := b3.grown g2 (by omega) (fun j hj => (hvb j hj).1)
      have HO : Hid (w4.ownsRow w2.heap.size 9 1 v2 (wv xs ys l (k + 1)).length ((wv xs ys l (k + 1)).map Value.string)) := by
        show World.ownsRow _ _ _ _ _ _ _
        rw [HW.out]; exact o2
      go_roundw
      case rel => exact ⟨k + 1, by omega, by first | rfl | go_num, by rw [HA1.out], HO.out, HB.out⟩
      case measure => first | (simp [intOf]; omega) | simp [intOf]
    · have q : ¬ (k : Int) < (l.length : Int) := by omega
      obtain rfl : k = l.length := by omega
      have hp := stA_bd hb0
      have hp2 := stB_bd hb0
      have hwl := wv_length hb0 l.length (Nat.le_refl _)
      obtain ⟨P, hP⟩ : ∃ P : Nat, stA l l.length = (P : Int) := ⟨(stA l l.length).toNat, by omega⟩
      obtain ⟨A, hA⟩ := segAddr ha1 c1 P
      have hF0 : Fr w2.heap.size w2.heap.size w2 wr := Fr.ofBelow hbel
      have hs1 := segSSB (hF0.ssb A1 (by omega)) P xs.length c1 (by omega) (Nat.le_refl _) k1
      rw [hA] at hs1
      have hq1 := seg_small z1 P xs.length
      have hl1 : ((xs.drop P).take (xs.length - P)).length = xs.length - P := by rw [List.length_take, List.length_drop]; omega
      have hwe : weave xs ys l = wv xs ys l l.length ++ (xs.drop P).take (xs.length - P) := by
        unfold weave; rw [hP, List.take_of_length_le (by rw [List.length_drop]; omega)]; simp
      have hmem : ∀ x ∈ weave xs ys l, x.size ≤ 1048576 := fun x hx => by
        rcases weave_mem hx with h | h
        · exact z1 x h
        · exact z2 x h
      rw [hP] at hwl ⊢
      obtain ⟨S0, hS0⟩ : ∃ S, wv xs ys l l.length = S := ⟨_, rfl⟩
      obtain ⟨S1, hS1⟩ : ∃ S, (xs.drop P).take (xs.length - P) = S := ⟨_, rfl⟩
      rw [hS0, hS1] at hwe
      rw [hS0] at hown hwl
      rw [hS1] at hs1 hl1 hq1
      have hs1 := hs1.mono (show w.heap.size ≤ w2.heap.size by omega)
      have e1 : (P : Int) ≤ (xs.length : Int) := by omega
      have hb1 : S0.length + S1.length ≤ 1048576 := by omega
      have hn1 := newsOf hs1
      have hl1' : (S1.map Value.string).length = (xs.length - P) * 1 := by rw [List.length_map, hl1, Nat.mul_one]
      have hb1' : S0.length + (xs.length - P) ≤ 1048576 := by omega
      have hub : ∀ j, u8.ownBlock = some j → w2.heap.size ≤ j := fun j hj => (hown.lt j hj).1
      have rr := r2.below (by omega) hbel
      clear hP hS0 hS1 hF0 hs1 hq1 hp hp2 hwl A1 A2 A3
      go_wp2_with ((at_builtin; refine wpList_append_own_at _ rfl (.tmp 55) (.tmp 58) 22 rfl w2.heap.size 9 i0 (.string ByteArray.empty) 1 16 Try.underlying22 hi hz0 hz1 hz2 rfl (by decide) _ _ _ rfl hown A (xs.length - P) _ (S1.map Value.string) rfl hl1' hn1 (oneStr _) (by unfold maxLen; omega) (by omega) hsz ?_; intro v1 w3 o1 g1 _ u1))
      rw [← hl1, ← List.length_append, mapApp, ← hwe] at o1
      obtain ⟨y, cy, rfl⟩ := shapeS o1
      have b3 : Below w2.heap.size w2 w3 := hbel.grown g1 hsz hub
      have BB3 := BB.trans (b3.mono (by omega))
      obtain ⟨kk0, kk1, gg0, gg1⟩ := r2.below (by omega) b3
      have hnl : (weave xs ys l).length ≤ 1048576 := by rw [hwe, List.length_append]; exact hb1
      obtain ⟨L, hL⟩ : ∃ L, weave xs ys l = L := ⟨_, rfl⟩
      have HL : Hid (weave xs ys l = L) := hL
      rw [hL] at o1 hmem hnl ⊢
      have htL : tot L ≤ 1048576 := by rw [← HL.out]; exact weave_tot hb0 m1 m2 y1 y2
      have hlf := specLinesFault y cy L w3 (ownSS o1 (fun k hk => by
        rw [getD_at L k hk]
        have := hmem _ (List.getElem_mem hk)
        omega)) hnl htL
      clear hn1 hl1' hl1 hwe g1 u1 b3 hbel hown hub rr r2 hL
      have hw2 : w.heap.size < w2.heap.size := by omega
      by_cases hl0 : lf L = 0
      · have HV : Hid (lf L = 0) := hl0
        rw [hl0] at hlf
        have HP : Hid (((w3.setCell ⟨w.heap.size, 0, none⟩ (.int .i64 0)).setCell ⟨w.heap.size, 1, none⟩ (.slice y L.length cy)).ownsRow w.heap.size 9 1 (.slice y L.length cy) L.length (L.map Value.string)) := by
          have hs := grownTrans (grownSet w3 w.heap.size 0 (.int .i64 0)) (grownSet _ w.heap.size 1 (.slice y L.length cy))
          exact ownMono (o1.kept hs (blockCases _ _ fun j e1 e2 => by cases e2; have := (o1.lt _ e1).1; omega)) (by omega)
        have HB := below_sets BB3 (Nat.le_refl _) (.int .i64 0) (.slice y L.length cy)
        clear o1 BB3 BB hl0
        go_wp2_with fail
        refine hlf.mono ?_; rintro e w3 ⟨rfl, rfl⟩
        go_wp2_with fail
        refine bodyPost_ret (v := .agg #[.int .i64 0, .slice y L.length cy]) (by simp [results, Try.results22, go_sem, kk0, kk1]) rfl ?_
        have q1 := HRR.out
        have q2 := HLL.out
        rw [HL.out, HV.out] at q1
        subst q1
        rw [if_pos rfl, HL.out] at q2
        subst q2
        exact ⟨_, rfl, HP.out, HB⟩
      · have hb := ne_beq hl0
        obtain ⟨v, hv⟩ : ∃ v, lf L = v := ⟨_, rfl⟩
        have HV : Hid (lf L = v) := hv
        have HN : Hid (¬ lf L = 0) := hl0
        rw [hv] at hlf hb
        have HB := below_sets BB3 (Nat.le_refl _) (.int .i64 v) (.slice none 0 0)
        clear o1 BB3 BB hl0 hv
        go_wp2_with fail
        refine hlf.mono ?_; rintro e w3 ⟨rfl, rfl⟩
        go_wp2_with fail
        refine bodyPost_ret (v := .agg #[.int .i64 v, .slice none 0 0]) (by simp [results, Try.results22, go_sem, kk0, kk1]) rfl ?_
        have q1 := HRR.out
        have q2 := HLL.out
        have q3 := HN.out
        rw [HL.out, HV.out] at q1
        rw [HV.out] at q3
        subst q1
        rw [if_neg q3] at q2
        subst q2
        exact ⟨_, rfl, ⟨rfl, .inl ⟨rfl, rfl⟩⟩, HB⟩
set_option maxRecDepth 20000 in
set_option maxHeartbeats 4000000 in
theorem specWeaveNo (a1 a2 a3 : Option Addr) (c1 c2 c3 : Nat) (xs ys : List ByteArray) (l : List Chg) (w : World) (h1 : SS w a1 xs) (h2 : SS w a2 ys) (h3 : CB w.heap.size w a3 l) (t1 : tot xs ≤ 1048576) (t2 : tot ys ≤ 1048576) (n1 : xs.length ≤ 1048576) (n2 : ys.length ≤ 1048576) (n3 : l.length ≤ 1048576)
    (h0 : ¬ cfa xs ys l = 0) :
    Calls Try.prog 22 #[.slice a1 xs.length c1, .slice a2 ys.length c2, .slice a3 l.length c3] w fun e w' => LP (cfa xs ys l) [] w e w' := by
  have hA := fun w h1 h2 h3 => specChangesFault w.heap.size a1 a2 a3 c1 c2 c3 xs ys l w h1 h2 h3 n1 t1 n2 t2 n3
  have hb := ne_beq h0
  obtain ⟨v, hv⟩ : ∃ v, cfa xs ys l = v := ⟨_, rfl⟩
  rw [hv] at hA hb ⊢
  clear h0 hv
  go_enter Try.func22, Try.ntmps22
  go_wp2_with fail
  obtain ⟨W1, hW1⟩ : ∃ W1, w.alloc (.cells #[.int .i64 0, .slice none 0 0] 39) = W1 := ⟨_, rfl⟩
  have b1 : Below w.heap.size w W1 := by rw [← hW1]; exact allocBelow _ _
  have zW : w.heap.size < W1.heap.size := by rw [← hW1]; simp
  have r1 : Res2 W1 w.heap.size (.int .i64 0) (.slice none 0 0) := by rw [← hW1]; exact Res2.new _ _ _ _
  rw [hW1]
  clear hW1
  have s1 := h1.below b1
  have s2 := h2.below b1
  have s3 := h3.below b1
  refine (hA _ s1 s2 (fun k hk => by obtain ⟨g, off, e, hg, r⟩ := s3 k hk; exact ⟨g, off, e, by omega, r⟩)).mono ?_; rintro e w2 ⟨rfl, b2⟩
  have BB := b1.trans (b2.mono b1.size)
  have r2 := r1.below zW b2
  obtain ⟨k0, k1, g0, g1⟩ := r2
  have HB := below_sets BB (Nat.le_refl _) (.int .i64 v) (.slice none 0 0)
  clear s1 s2 s3 h1 h2 h3 hA r1 b1 b2 BB
  go_wp2
  refine bodyPost_ret (v := .agg #[.int .i64 v, .slice none 0 0]) (by simp [results, Try.results22, go_sem, k0, k1]) rfl ?_
  exact ⟨_, rfl, ⟨rfl, .inl ⟨rfl, rfl⟩⟩, HB⟩

theorem specWeaveChanges (g1 g2 : Nat) (a3 : Option Addr) (c1 c2 c3 : Nat) (xs ys : List ByteArray) (l : List Chg) (w : World) (h1 : SS w (some ⟨g1, 0, none⟩) xs) (h2 : SS w (some ⟨g2, 0, none⟩) ys) (h3 : CB w.heap.size w a3 l) (k1 : xs.length ≤ c1) (k2 : ys.length ≤ c2) (n1 : xs.length ≤ 1048576) (n2 : ys.length ≤ 1048576) (n3 : l.length ≤ 1048576)
    (t1 : tot xs ≤ 1048576) (t2 : tot ys ≤ 1048576) :
    Calls Try.prog 22 #[.slice (some ⟨g1, 0, none⟩) xs.length c1, .slice (some ⟨g2, 0, none⟩) ys.length c2, .slice a3 l.length c3] w fun e w' => LP (wvCode xs ys l) (wvLines xs ys l) w e w' := by
  by_cases h0 : cfa xs ys l = 0
  · obtain ⟨ha, hc⟩ := cfa_zero h0
    obtain ⟨hx, hy⟩ := asked_zero ha
    have e1 : wvCode xs ys l = lf (weave xs ys l) := if_pos h0
    have e2 : wvLines xs ys l = if lf (weave xs ys l) = 0 then weave xs ys l else [] := by
      unfold wvLines
      by_cases h : lf (weave xs ys l) = 0
      · rw [if_pos ⟨h0, h⟩, if_pos h]
      · rw [if_neg (fun h' => h h'.2), if_neg h]
    rw [e1, e2]
    exact specWeave _ _ a3 c1 c2 c3 xs ys l w h1 h2 h3 k1 k2 n1 n2 n3 (fun x hx => by have := tot_mem hx; omega) (fun x hx => by have := tot_mem hx; omega) ⟨_, rfl⟩ ⟨_, rfl⟩ t1 t2 (fun x hm => by have := tot_mem hm; have := (lf_zero hx).2; omega) (fun x hm => by have := tot_mem hm; have := (lf_zero hy).2; omega) h0 hc (lf_zero hx).1 (lf_zero hy).1
  · have e1 : wvCode xs ys l = cfa xs ys l := if_neg h0
    have e2 : wvLines xs ys l = [] := if_neg (fun h => h0 h.1)
    rw [e1, e2]
    exact specWeaveNo _ _ a3 c1 c2 c3 xs ys l w h1 h2 h3 t1 t2 n1 n2 n3 h0
end Go.Proofs.Ytidjcjeiigjmaah
