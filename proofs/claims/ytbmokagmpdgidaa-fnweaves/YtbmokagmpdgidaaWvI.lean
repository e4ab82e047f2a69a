/- The contract of impl.WeaveChanges. No statement is proved here. -/
import Derived.Test.YtbmokagmpdgidaaRows
import Derived.Test.YtbmokagmpdgidaaLem
import Derived.Test.YtbmokagmpdgidaaStrs
import Derived.Test.YtbmokagmpdgidaaOwn
import Derived.Test.YtbmokagmpdgidaaLFLem
import Derived.Test.YtbmokagmpdgidaaLF
import Derived.Test.YtbmokagmpdgidaaCom
import Derived.Test.YtbmokagmpdgidaaAsked
import Derived.Test.YtbmokagmpdgidaaDTab
import Derived.Test.YtbmokagmpdgidaaFr
import Derived.Test.YtbmokagmpdgidaaChg
import Derived.Test.YtbmokagmpdgidaaCoC
import Derived.Test.YtbmokagmpdgidaaEdC
import Derived.Test.YtbmokagmpdgidaaCFC
import Derived.Test.YtbmokagmpdgidaaCFI
import Derived.Test.YtbmokagmpdgidaaCFS
import Derived.Test.YtbmokagmpdgidaaWvC
import Derived.Test.YtbmokagmpdgidaaWvL
import Derived.WalkKit
import Derived.ProofKit
import Derived.Below
import Derived.WalkSpells
namespace Go.Proofs.Ytbmokagmpdgidaa
open Go.ChangeShapes Go.WideShapes Go.ChangeAt Go.RowKit

theorem stA_bd {n m : Nat} {l : List Chg} (h : cf n m l = 0) : 0 ≤ stA l l.length ∧ stA l l.length ≤ n := by
  rcases Nat.eq_zero_or_pos l.length with e | e
  · rw [e]; have : stA l 0 = 0 := rfl
    omega
  · obtain ⟨k, hk⟩ : ∃ k, l.length = k + 1 := ⟨l.length - 1, by omega⟩
    have := cf_nums h k (by omega)
    rw [hk]; omega
theorem stB_bd {n m : Nat} {l : List Chg} (h : cf n m l = 0) : stB l l.length ≤ m := by
  rcases Nat.eq_zero_or_pos l.length with e | e
  · rw [e]; have : stB l 0 = 0 := rfl
    omega
  · obtain ⟨k, hk⟩ : ∃ k, l.length = k + 1 := ⟨l.length - 1, by omega⟩
    have := cf_nums h k (by omega)
    rw [hk]; omega
theorem part_nat (xs : List ByteArray) (i j : Nat) : part xs (i : Int) (j : Int) = (xs.drop i).take (j - i) := by simp [part]
/-- The code and the lines that WeaveChanges tells. -/
def wvCode (xs ys : List ByteArray) (l : List Chg) : Int := if cfa xs ys l = 0 then lf (weave xs ys l) else cfa xs ys l
def wvLines (xs ys : List ByteArray) (l : List Chg) : List ByteArray := if cfa xs ys l = 0 ∧ lf (weave xs ys l) = 0 then weave xs ys l else []
theorem weave_mem {xs ys : List ByteArray} {l : List Chg} {x : ByteArray} (h : x ∈ weave xs ys l) : x ∈ xs ∨ x ∈ ys := by
  have key : ∀ k, ∀ x ∈ wv xs ys l k, x ∈ xs ∨ x ∈ ys := by
    intro k
    induction k with
    | zero => intro x hx; cases hx
    | succ k ih =>
      intro x hx
      rw [wv_succ] at hx
      rcases List.mem_append.1 hx with hx | hx
      · rcases List.mem_append.1 hx with hx | hx
        · exact ih x hx
        · exact .inl (part_mem hx)
      · exact .inr (part_mem hx)
  rcases List.mem_append.1 h with h | h
  · exact key _ x h
  · exact .inl (List.mem_of_mem_drop h)

set_option maxRecDepth 20000 in
set_option maxHeartbeats 4000000 in
theorem implWeave (a1 a2 a3 : Option Addr) (c1 c2 c3 : Nat) (xs ys : List ByteArray) (l : List Chg) (w : World) (h1 : SS w a1 xs) (h2 : SS w a2 ys) (h3 : CB w.heap.size w a3 l) (hr : Rng l) (k1 : xs.length ≤ c1) (k2 : ys.length ≤ c2) (n1 : xs.length ≤ 1048576) (n2 : ys.length ≤ 1048576) (n3 : l.length ≤ 1048576)
    (z1 : ∀ x ∈ xs, x.size ≤ 1048576) (z2 : ∀ x ∈ ys, x.size ≤ 1048576) (h0 : cfa xs ys l = 0) (hb0 : cf xs.length ys.length l = 0) (m1 : xs.length ≤ 100) (m2 : ys.length ≤ 100) :
    Calls Try.prog 27 #[.slice a1 xs.length c1, .slice a2 ys.length c2, .slice a3 l.length c3] w fun e w' => LP (lf (weave xs ys l)) (if lf (weave xs ys l) = 0 then weave xs ys l else []) w e w' := by
  obtain ⟨RR, hRR⟩ : ∃ R, lf (weave xs ys l) = R := ⟨_, rfl⟩
  obtain ⟨LL, hLL⟩ : ∃ L, (if RR = 0 then weave xs ys l else []) = L := ⟨_, rfl⟩
  have HRR : Hid (lf (weave xs ys l) = RR) := hRR
  have HLL : Hid ((if RR = 0 then weave xs ys l else []) = LL) := hLL
  rw [hRR, hLL]
  clear hRR hLL
  have hA := fun w h1 h2 h3 => implChangesFault w.heap.size a1 a2 a3 c1 c2 c3 xs ys l w h1 h2 h3 hr n1 n2 n3
  rw [h0] at hA
  go_enter Try.func27, Try.ntmps27
  go_wp2_with fail
  obtain ⟨W1, hW1⟩ : ∃ W1, w.alloc (.cells #[.int .i64 0, .slice none 0 0] 27) = W1 := ⟨_, rfl⟩
  have b1 : Below w.heap.size w W1 := by rw [← hW1]; exact allocBelow _ _
  have zW : w.heap.size < W1.heap.size := by rw [← hW1]; simp
  have r1 : Res2 W1 w.heap.size (.int .i64 0) (.slice none 0 0) := by rw [← hW1]; exact Res2.new _ _ _ _
  rw [hW1]
  clear hW1
  have s1 := h1.below b1
  have s2 := h2.below b1
  have s3 := h3.below b1
  refine (hA _ s1 s2 (fun k hk => by obtain ⟨g, off, e, hg, r⟩ := s3 k hk; exact ⟨g, off, e, by omega, r⟩)).mono ?_; rintro e w2 ⟨rfl, b2⟩
  have A1 : SSB w.heap.size w2 a1 xs := (h1.toB.below b1).below b2
  have A2 : SSB w.heap.size w2 a2 ys := (h2.toB.below b1).below b2
  have A3 := s3.below b2
  have r2 := r1.below zW b2
  have BB := b1.trans (b2.mono b1.size)
  have hz2 := b2.size
  clear s1 s2 s3 h1 h2 h3 hA r1 b1 b2
  go_wp2
  go_loopw [8, 9, 23] (fun u va vk wr => ∃ k : Nat, k ≤ l.length ∧ vk = .int .i64 (k : Int) ∧ va = .int .i64 (stA l k) ∧ wr.ownsRow w2.heap.size 9 1 u (wv xs ys l k).length ((wv xs ys l k).map Value.string) ∧ Below w2.heap.size w2 wr) (fun _ _ vk _ => l.length - (intOf vk).toNat)
  case atStart => exact ⟨0, Nat.zero_le _, rfl, rfl, ⟨rfl, .inl ⟨rfl, rfl⟩⟩, Below.refl _ _⟩
  case round =>
    obtain ⟨k, hk, rfl, rfl, hown, hbel⟩ := hrel
    have hsz := hbel.size
    by_cases hlt : k < l.length
    · have q : (k : Int) < (l.length : Int) := by omega
      obtain ⟨g, off, e, hg, d0, d1, d2, d3⟩ := A3.below hbel k hlt
      subst e
      have hnm := cf_nums hb0 k hlt
      have hwl := wv_length hb0 k hk
      have hws := wv_succ xs ys l k
      obtain ⟨C, hCe⟩ : ∃ C, l.getD k (0, 0, 0, 0) = C := ⟨_, rfl⟩
      obtain ⟨x0, x1, x2, x3⟩ := C
      rw [hCe] at d0 d1 d2 d3 hnm hws
      simp only [] at d0 d1 d2 d3 hnm hws
      obtain ⟨P, hP⟩ : ∃ P : Nat, stA l k = (P : Int) := ⟨(stA l k).toNat, by omega⟩
      obtain ⟨X0, rfl⟩ : ∃ X : Nat, x0 = (X : Int) := ⟨x0.toNat, by omega⟩
      obtain ⟨X2, rfl⟩ : ∃ X : Nat, x2 = (X : Int) := ⟨x2.toNat, by omega⟩
      obtain ⟨X3, rfl⟩ : ∃ X : Nat, x3 = (X : Int) := ⟨x3.toNat, by omega⟩
      rw [hP] at hnm hwl hws ⊢
      clear hCe hP
      rw [part_nat, show ((X2 : Int) + (X3 : Int)) = ((X2 + X3 : Nat) : Int) by omega, part_nat] at hws
      obtain ⟨A, hA⟩ : ∃ A, (if c1 = P then a1 else Option.map (fun x => x.add P) a1) = A := ⟨_, rfl⟩
      obtain ⟨D, hD⟩ : ∃ A, (if c2 = X2 then a2 else Option.map (fun x => x.add X2) a2) = A := ⟨_, rfl⟩
      have hF0 : Fr w2.heap.size w2.heap.size w2 wr := Fr.ofBelow hbel
      have hs1 := segSSB (hF0.ssb A1 (by omega)) P X0 c1 (by omega) (by omega) k1
      have hs2 := segSSB (hF0.ssb A2 (by omega)) X2 (X2 + X3) c2 (by omega) (by omega) k2
      rw [hA] at hs1
      rw [hD] at hs2
      have hl1 : ((xs.drop P).take (X0 - P)).length = X0 - P := by rw [List.length_take, List.length_drop]; omega
      have hl2 : ((ys.drop X2).take (X2 + X3 - X2)).length = X3 := by rw [List.length_take, List.length_drop]; omega
      have hq1 := seg_small z1 P X0
      have hq2 := seg_small z2 X2 (X2 + X3)
      obtain ⟨S0, hS0⟩ : ∃ S, wv xs ys l k = S := ⟨_, rfl⟩
      obtain ⟨S1, hS1⟩ : ∃ S, (xs.drop P).take (X0 - P) = S := ⟨_, rfl⟩
      obtain ⟨S2, hS2⟩ : ∃ S, (ys.drop X2).take (X2 + X3 - X2) = S := ⟨_, rfl⟩
      rw [hS0, hS1, hS2] at hws
      rw [hS0] at hown hwl
      rw [hS1] at hs1 hl1 hq1
      rw [hS2] at hs2 hl2 hq2
      have HW : Hid (wv xs ys l (k + 1) = S0 ++ S1 ++ S2) := hws
      have HA1 : Hid (stA l (k + 1) = (X0 : Int) + x1) := by have := hnm; show _ = _; omega
      have hx1 : (X0 : Int) + x1 ≤ 100 ∧ 0 ≤ (X0 : Int) + x1 := by omega
      obtain ⟨hx2, hx3⟩ := hx1
      have e1 : (P : Int) ≤ (X0 : Int) := by omega
      have e2 : (X0 : Int) ≤ (xs.length : Int) := by omega
      have e3 : (X2 : Int) + (X3 : Int) ≤ (ys.length : Int) := by omega
      have hb1 : S0.length + S1.length ≤ 1048576 := by omega
      have hb2 : (S0 ++ S1).length + S2.length ≤ 1048576 := by rw [List.length_append]; omega
      clear hws hnm hS0 hS1 hS2 hF0
      have hs1 := hs1.mono (show w.heap.size ≤ w2.heap.size by omega)
      have hs2 := hs2.mono (show w.heap.size ≤ w2.heap.size by omega)
      have hub : ∀ j, u8.ownBlock = some j → w2.heap.size ≤ j ∧ j < wr.heap.size := fun j hj => hown.lt j hj
      go_wp2_with fail
      obtain ⟨W, hW⟩ : ∃ W, wr.alloc (.cells #[.int .i64 (X0 : Int), .int .i64 x1, .int .i64 (X2 : Int), .int .i64 (X3 : Int)] 50) = W := ⟨_, rfl⟩
      have hR : Rs W wr.heap.size [.int .i64 (X0 : Int), .int .i64 x1, .int .i64 (X2 : Int), .int .i64 (X3 : Int)] := by rw [← hW]; exact Rs.new _ _ _
      have FW : Fr w2.heap.size w2.heap.size wr W := by rw [← hW]; exact Fr.ofAlloc _ _
      have zR : wr.heap.size < W.heap.size := by rw [← hW]; simp
      have oW := FW.own hown (fun j hj => by have := hub j hj; omega)
      have bW := FW.below hbel (Nat.le_refl _) hsz
      rw [hW]
      clear hW
      have hc1 := appendCopies w2.heap.size u8 S0 S1 A (c1 - P) W oW (FW.ssb hs1 (Nat.le_refl _)) (by omega) hq1 hb1
      rw [hl1] at hc1
      refine hc1.mono ?_; rintro e w3 ⟨v1, rfl, o1, g1, u1⟩
      rw [← hl1, ← List.length_append] at o1
      have f0 := g1.cell (hR 0 _ rfl) (fun e => by have := (hub _ e.symm).2; simp at this)
      have f1 := g1.cell (hR 1 _ rfl) (fun e => by have := (hub _ e.symm).2; simp at this)
      have f2 := g1.cell (hR 2 _ rfl) (fun e => by have := (hub _ e.symm).2; simp at this)
      have f3 := g1.cell (hR 3 _ rfl) (fun e => by have := (hub _ e.symm).2; simp at this)
      have hs2 := (FW.ssb hs2 (Nat.le_refl _)).grown g1 (fun j hj => (hub j hj).1)
      have b3 : Below w2.heap.size w2 w3 := bW.grown g1 (by omega) (fun j hj => (hub j hj).1)
      have hvb : ∀ j, v1.ownBlock = some j → w2.heap.size ≤ j ∧ j ≠ wr.heap.size := fun j hj => ⟨(o1.lt j hj).1, by
        rcases u1 j hj with h | h
        · have := (hub j h).2; omega
        · omega⟩
      have z3 := g1.size
      have hc2 := appendCopies w2.heap.size v1 (S0 ++ S1) S2 D (c2 - X2) w3 o1 hs2 (by omega) hq2 hb2
      rw [hl2] at hc2
      clear hR FW oW bW hc1 d0 d1 d2 d3 hs1 hs2 hbel hown g1 u1
      go_wp2_with fail
      refine hc2.mono ?_; rintro e w4 ⟨v2, rfl, o2, g2, u2⟩
      rw [← hl2, ← List.length_append] at o2
      have e0 := g2.cell f0 (fun e => (hvb _ e.symm).2 rfl)
      have e1' := g2.cell f1 (fun e => (hvb _ e.symm).2 rfl)
      have HB : Hid (Below w2.heap.size w2 w4) := b3.grown g2 (by omega) (fun j hj => (hvb j hj).1)
      have HO : Hid (w4.ownsRow w2.heap.size 9 1 v2 (wv xs ys l (k + 1)).length ((wv xs ys l (k + 1)).map Value.string)) := by
        show World.ownsRow _ _ _ _ _ _ _
        rw [HW.out]; exact o2
      clear hc2 o1 o2 g2 u2 b3 f0 f1 f2 f3 hvb hub
      go_wp2_with fail
      go_roundw
      case rel => exact ⟨k + 1, by omega, by first | rfl | go_num, by rw [HA1.out], HO.out, HB.out⟩
      case measure => first | (simp [intOf]; omega) | simp [intOf]
    · have q : ¬ (k : Int) < (l.length : Int) := by omega
      obtain rfl : k = l.length := by omega
      have hp := stA_bd hb0
      have hp2 := stB_bd hb0
      have hwl := wv_length hb0 l.length (Nat.le_refl _)
      obtain ⟨P, hP⟩ : ∃ P : Nat, stA l l.length = (P : Int) := ⟨(stA l l.length).toNat, by omega⟩
      obtain ⟨A, hA⟩ : ∃ A, (if c1 = P then a1 else Option.map (fun x => x.add P) a1) = A := ⟨_, rfl⟩
      have hF0 : Fr w2.heap.size w2.heap.size w2 wr := Fr.ofBelow hbel
      have hs1 := segSSB (hF0.ssb A1 (by omega)) P xs.length c1 (by omega) (Nat.le_refl _) k1
      rw [hA] at hs1
      have hq1 := seg_small z1 P xs.length
      have hl1 : ((xs.drop P).take (xs.length - P)).length = xs.length - P := by rw [List.length_take, List.length_drop]; omega
      have hwe : weave xs ys l = wv xs ys l l.length ++ (xs.drop P).take (xs.length - P) := by
        unfold weave; rw [hP, List.take_of_length_le (by rw [List.length_drop]; omega)]; simp
      have hmem : ∀ x ∈ weave xs ys l, x.size ≤ 1048576 := fun x hx => by
        rcases weave_mem hx with h | h
        · exact z1 x h
        · exact z2 x h
      rw [hP] at hwl ⊢
      obtain ⟨S0, hS0⟩ : ∃ S, wv xs ys l l.length = S := ⟨_, rfl⟩
      obtain ⟨S1, hS1⟩ : ∃ S, (xs.drop P).take (xs.length - P) = S := ⟨_, rfl⟩
      rw [hS0, hS1] at hwe
      rw [hS0] at hown hwl
      rw [hS1] at hs1 hl1 hq1
      have hs1 := hs1.mono (show w.heap.size ≤ w2.heap.size by omega)
      have e1 : (P : Int) ≤ (xs.length : Int) := by omega
      have hb1 : S0.length + S1.length ≤ 1048576 := by omega
      have hc1 := appendCopies w2.heap.size u8 S0 S1 A (c1 - P) wr hown hs1 hsz hq1 hb1
      rw [hl1] at hc1
      have hub : ∀ j, u8.ownBlock = some j → w2.heap.size ≤ j := fun j hj => (hown.lt j hj).1
      have rr := r2.below (by omega) hbel
      clear hP hS0 hS1 hF0 hs1 hq1 hp hp2 hwl A1 A2 A3
      go_wp2_with fail
      refine hc1.mono ?_; rintro e w3 ⟨v1, rfl, o1, g1, u1⟩
      rw [← hl1, ← List.length_append, ← hwe] at o1
      obtain ⟨y, cy, rfl⟩ := shapeS o1
      have b3 : Below w2.heap.size w2 w3 := hbel.grown g1 hsz hub
      have BB3 := BB.trans (b3.mono (by omega))
      obtain ⟨kk0, kk1, gg0, gg1⟩ := r2.below (by omega) b3
      have hnl : (weave xs ys l).length ≤ 1048576 := by rw [hwe, List.length_append]; exact hb1
      obtain ⟨L, hL⟩ : ∃ L, weave xs ys l = L := ⟨_, rfl⟩
      have HL : Hid (weave xs ys l = L) := hL
      rw [hL] at o1 hmem hnl ⊢
      have hlf := implLinesFault y cy L w3 (ownSS o1 (fun k hk => by
        rw [getD_at L k hk]
        have := hmem _ (List.getElem_mem hk)
        omega)) hnl
      clear hc1 hl1 hwe g1 u1 b3 hbel hown hub rr r2 hL
      have hw2 : w.heap.size < w2.heap.size := by omega
      by_cases hl0 : lf L = 0
      · have HV : Hid (lf L = 0) := hl0
        rw [hl0] at hlf
        have HP : Hid (((w3.setCell ⟨w.heap.size, 0, none⟩ (.int .i64 0)).setCell ⟨w.heap.size, 1, none⟩ (.slice y L.length cy)).ownsRow w.heap.size 9 1 (.slice y L.length cy) L.length (L.map Value.string)) := by
          have hs := grownTrans (grownSet w3 w.heap.size 0 (.int .i64 0)) (grownSet _ w.heap.size 1 (.slice y L.length cy))
          exact ownMono (o1.kept hs (blockCases _ _ fun j e1 e2 => by cases e2; have := (o1.lt _ e1).1; omega)) (by omega)
        have HB := below_sets BB3 (Nat.le_refl _) (.int .i64 0) (.slice y L.length cy)
        clear o1 BB3 BB hl0
        go_wp2_with fail
        refine hlf.mono ?_; rintro e w3 ⟨rfl, rfl⟩
        go_wp2_with fail
        refine bodyPost_ret (v := .agg #[.int .i64 0, .slice y L.length cy]) (by simp [results, Try.results27, go_sem, kk0, kk1]) rfl ?_
        have q1 := HRR.out
        have q2 := HLL.out
        rw [HL.out, HV.out] at q1
        subst q1
        rw [if_pos rfl, HL.out] at q2
        subst q2
        exact ⟨_, rfl, HP.out, HB⟩
      · have hb := ne_beq hl0
        obtain ⟨v, hv⟩ : ∃ v, lf L = v := ⟨_, rfl⟩
        have HV : Hid (lf L = v) := hv
        have HN : Hid (¬ lf L = 0) := hl0
        rw [hv] at hlf hb
        have HB := below_sets BB3 (Nat.le_refl _) (.int .i64 v) (.slice none 0 0)
        clear o1 BB3 BB hl0 hv
        go_wp2_with fail
        refine hlf.mono ?_; rintro e w3 ⟨rfl, rfl⟩
        go_wp2_with fail
        refine bodyPost_ret (v := .agg #[.int .i64 v, .slice none 0 0]) (by simp [results, Try.results27, go_sem, kk0, kk1]) rfl ?_
        have q1 := HRR.out
        have q2 := HLL.out
        have q3 := HN.out
        rw [HL.out, HV.out] at q1
        rw [HV.out] at q3
        subst q1
        rw [if_neg q3] at q2
        subst q2
        exact ⟨_, rfl, ⟨rfl, .inl ⟨rfl, rfl⟩⟩, HB⟩
end Go.Proofs.Ytbmokagmpdgidaa
