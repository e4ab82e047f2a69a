/- The contract of impl.HunksOf. No statement is proved here. -/
import Derived.Test.YtnkbjbbaoddfkaaGreatDoorRows
import Derived.Test.YtnkbjbbaoddfkaaGreatDoorLemQ
import Derived.Test.YtnkbjbbaoddfkaaGreatDoorLFLemQ
import Derived.Test.YtnkbjbbaoddfkaaGreatDoorDTabQ
import Derived.Test.YtnkbjbbaoddfkaaGreatDoorWvCQ
import Derived.Test.YtnkbjbbaoddfkaaGreatDoorComQ
import Derived.Test.YtnkbjbbaoddfkaaGreatDoorAskedQ
import Derived.Test.YtnkbjbbaoddfkaaGreatDoorPairsQ
import Derived.Test.YtnkbjbbaoddfkaaGreatDoorCoCQ
import Derived.Test.YtnkbjbbaoddfkaaGreatDoorHkLQ
import Derived.Test.YtnkbjbbaoddfkaaGreatDoorHkTQ
import Derived.Test.YtnkbjbbaoddfkaaGreatDoorHfCQ
import Derived.Test.YtnkbjbbaoddfkaaGreatDoorHnLQ
import Derived.Test.YtnkbjbbaoddfkaaGreatDoorHrRQ
import Derived.Test.YtnkbjbbaoddfkaaGreatDoorRvLQ
import Derived.Test.YtnkbjbbaoddfkaaGreatDoorHoPQ
import Derived.Test.YtnkbjbbaoddfkaaGreatDoorHoIQ
import Derived.WalkKit
import Derived.ProofKit
import Derived.Below
import Derived.WalkSpells
import Derived.Maps.AppendAt
import Derived.Test.YtnkbjbbaoddfkaaGreatDoorHoSQ
namespace Go.Proofs.YtnkbjbbaoddfkaaGreatDoor
open Go.ChangeShapes Go.WideShapes Go.ChangeAt Go.RowKit

theorem CB.mono {B B' : Nat} {w : World} {a : Option Addr} {l : List Chg} (h : CB B w a l) (hB : B ≤ B') : CB B' w a l := fun k hk => by
  obtain ⟨g, off, e, hg, r⟩ := h k hk
  exact ⟨g, off, e, by omega, r⟩
theorem CB.take {B : Nat} {w : World} {a : Option Addr} {l : List Chg} (h : CB B w a l) (n : Nat) : CB B w a (l.take n) := fun k hk => by
  rw [List.length_take] at hk
  rw [getD_take4 _ _ _ (by omega)]
  exact h k (by omega)
theorem CB.seg {B : Nat} {w : World} {a : Option Addr} {l : List Chg} (h : CB B w a l) (n c : Nat) (hc : l.length ≤ c) : CB B w (if c = n then a else a.map (·.add (n * 4))) (l.drop n) := fun k hk => by
  rw [List.length_drop] at hk
  obtain ⟨g, off, e, hg, h0, h1, h2, h3⟩ := h (n + k) (by omega)
  subst e
  rw [getD_drop4]
  refine ⟨g, off + n * 4, ?_, hg, ?_, ?_, ?_, ?_⟩
  · rw [if_neg (by omega), Option.map_some, add_plain]
  · rw [show off + n * 4 + k * 4 = off + (n + k) * 4 by omega]; exact h0
  · rw [show off + n * 4 + k * 4 + 1 = off + (n + k) * 4 + 1 by omega]; exact h1
  · rw [show off + n * 4 + k * 4 + 2 = off + (n + k) * 4 + 2 by omega]; exact h2
  · rw [show off + n * 4 + k * 4 + 3 = off + (n + k) * 4 + 3 by omega]; exact h3
theorem totM {ss : List ByteArray} {x : ByteArray} (h : x ∈ ss) : (x.size : Int) ≤ tot ss := by
  induction ss with
  | nil => cases h
  | cons s t ih =>
    have e : tot (s :: t) = (s.size : Int) + tot t := by simp [tot]
    have ht := tot_nonneg t
    rcases List.mem_cons.1 h with rfl | h
    · omega
    · have := ih h; omega
/-- The length of a slice. -/
def lenV : Value → Nat
  | .slice _ n _ => n
  | _ => 0
/-- The code and the hunks that HunksOf tells. -/
def hoR (xs ys : List ByteArray) (cx : Int) : Int := if asked xs ys = 0 then (if 0 ≤ cx ∧ cx ≤ 5 then 0 else 3) else asked xs ys
def hoL (xs ys : List ByteArray) (cx : Int) : List Hk := if asked xs ys = 0 ∧ 0 ≤ cx ∧ cx ≤ 5 then hks xs ys cx (changes xs ys) else []

end Go.Proofs.YtnkbjbbaoddfkaaGreatDoor
/- The contract of spec.HunksOf. No statement is proved here. -/
namespace Go.Proofs.YtnkbjbbaoddfkaaGreatDoor
open Go.ChangeShapes Go.WideShapes Go.ChangeAt Go.RowKit

/-- A row of hunks that is handed back. -/
def HsPost (L : List Hk) (w : World) (e : Ending) (w' : World) : Prop := ∃ v sl, e = .returned v ∧ HO w.heap.size w' v L sl ∧ Below w.heap.size w w'
theorem HO.lit (w : World) (base : Nat) (hb : base ≤ w.heap.size) (sl : Nat → Value) : HO base (w.alloc (.cells #[] 35)) (.slice (some ⟨w.heap.size, 0, none⟩) 0 0) [] sl :=
  ⟨World.ownsRow_lit w #[] 0 hb (Nat.zero_le _) rfl, fun _ hk => absurd hk (Nat.not_lt_zero _), fun _ _ _ hk => absurd hk (Nat.not_lt_zero _), fun _ hk => absurd hk (Nat.not_lt_zero _)⟩

set_option maxRecDepth 20000 in
set_option maxHeartbeats 4000000 in
theorem l3Hunks (cx : Int) (hc0 : 0 ≤ cx) (hc5 : cx ≤ 5) (a1 a2 : Option Addr) (c1 c2 : Nat) (xs ys : List ByteArray) (w : World) (h1 : SS w a1 xs) (h2 : SS w a2 ys) (k1 : xs.length ≤ c1) (k2 : ys.length ≤ c2)
    (n1 : xs.length ≤ 100) (n2 : ys.length ≤ 100) (z1 : ∀ x ∈ xs, x.size ≤ 2000) (z2 : ∀ x ∈ ys, x.size ≤ 2000) :
    Calls Tryz.prog 32 #[.slice a1 xs.length c1, .slice a2 ys.length c2, .int .i64 cx] w fun e w' => HsPost (hks xs ys cx (changes xs ys)) w e w' := by
  obtain ⟨i1, hi', hy0, hy1, hy2⟩ := info_parts infoHunk
  have hA := l2Changes a1 a2 c1 c2 xs ys w h1 h2 n1 n2
  have hcw := changes_cw xs ys
  have hcl := changes_length xs ys n1
  obtain ⟨L, hL⟩ : ∃ L, changes xs ys = L := ⟨_, rfl⟩
  rw [hL] at hA hcw hcl ⊢
  clear hL
  go_enter Tryz.func32, Tryz.ntmps32
  go_wp2_with fail
  refine hA.mono ?_; rintro e w1 ⟨v, rfl, hv, b1⟩
  obtain ⟨va, vc, rfl, hcb⟩ := CB.of hv
  have hlc : L.length ≤ vc := by
    rcases hv.2 with ⟨e, e0⟩ | ⟨g, cap, cur, e, _, _, hn, _⟩
    · simp only [Value.slice.injEq] at e; omega
    · simp only [Value.slice.injEq] at e; omega
  have A1 : SSB w.heap.size w1 a1 xs := h1.toB.below b1
  have A2 : SSB w.heap.size w1 a2 ys := h2.toB.below b1
  have zz1 := b1.size
  clear h1 h2 hA hv
  go_wp2
  go_loopw [8, 9, 10] (fun vh vf vk wr => ∃ (fr j : Nat) (sl : Nat → Value) (dn : List Hk), vf = .int .i64 (fr : Int) ∧ vk = .int .i64 ((fr + j : Nat) : Int) ∧ 1 ≤ j ∧ fr + j ≤ L.length + 1 ∧ (fr < L.length → nx cx (L.drop fr) j = tog cx (L.drop fr)) ∧ (fr = L.length ∨ fr + j ≤ L.length) ∧ dn.length ≤ fr ∧ dn ++ hks xs ys cx (L.drop fr) = hks xs ys cx L ∧ HO w1.heap.size wr vh dn sl ∧ Below w1.heap.size w1 wr) (fun _ _ vk _ => L.length + 1 - (intOf vk).toNat)
  case atStart => exact ⟨0, 1, fun _ => .slice none 0 0, [], rfl, rfl, Nat.le_refl _, by omega, fun _ => by simp [tog], by omega, Nat.le_refl _, by simp, HO.lit w1 _ (Nat.le_refl _) _, (Below.refl _ _).alloc (Nat.le_refl _) _⟩
  case round =>
    obtain ⟨fr, j, sl, dn, rfl, rfl, hj, hfj, hnx, hor, hdl, hdn, hO, hbel⟩ := hrel
    have hsz := hbel.size
    have HDN : Hid (dn ++ hks xs ys cx (L.drop fr) = hks xs ys cx L) := hdn
    have HNX : Hid (fr < L.length → nx cx (L.drop fr) j = tog cx (L.drop fr)) := hnx
    clear hdn hnx
    obtain ⟨k, hk⟩ : ∃ k, fr + j = k := ⟨_, rfl⟩
    by_cases hlt : k ≤ L.length
    · have q : (k : Int) ≤ (L.length : Int) := by omega
      have hcw2 := hcw.drop fr
      have hlen : (L.drop fr).length = L.length - fr := by rw [List.length_drop]
      have hdd : (L.drop fr).drop j = L.drop k := by rw [List.drop_drop, hk]
      have hgo := nx_go cx (L.drop fr) j
      have hcu := nx_cut cx (L.drop fr) j
      have hen := nx_end cx (L.drop fr) j
      have hst := hks_step xs ys cx (cs := L.drop fr) (by omega)
      have hN := HNX.out (by omega)
      -- the hunk of the changes up to k
      have hB : tog cx (L.drop fr) = j → Hid (hks xs ys cx (L.drop fr) = hunkOf xs ys cx ((L.drop fr).take j) :: hks xs ys cx (L.drop k)) := by
        intro e; show _ = _; rw [hst, e, hdd]
      by_cases hmore : k < L.length
      · have q2 : (k : Int) < (L.length : Int) := by omega
        obtain ⟨g, off, e, hg, d0, d1, d2, d3⟩ := (hcb.bQ hbel (Nat.le_refl _)) k hmore
        obtain ⟨g', off', e', hg', f0, f1, f2, f3⟩ := (hcb.bQ hbel (Nat.le_refl _)) (k - 1) (by omega)
        rw [e] at e'
        simp only [Option.some.injEq, Addr.mk.injEq, and_true] at e'
        obtain ⟨rfl, rfl⟩ := e'
        have bd1 := hcw.bd k hmore
        have bd2 := hcw.bd (k - 1) (by omega)
        have hcut : cutB cx (L.drop fr) j = decide (2 * cx < (L.getD k (0, 0, 0, 0)).1 - (L.getD (k - 1) (0, 0, 0, 0)).1 - (L.getD (k - 1) (0, 0, 0, 0)).2.1) := by
          unfold cutB
          rw [getD_drop4, getD_drop4, hk, show fr + (j - 1) = k - 1 by omega]
        obtain ⟨C, hCe⟩ : ∃ C, L.getD k (0, 0, 0, 0) = C := ⟨_, rfl⟩
        obtain ⟨D, hDe⟩ : ∃ C, L.getD (k - 1) (0, 0, 0, 0) = C := ⟨_, rfl⟩
        obtain ⟨x0, x1, x2, x3⟩ := C
        obtain ⟨y0, y1, y2, y3⟩ := D
        rw [hCe] at d0 d1 d2 d3 bd1 hcut
        rw [hDe] at f0 f1 f2 f3 bd2 hcut
        simp only [] at d0 d1 d2 d3 f0 f1 f2 f3 bd1 bd2 hcut
        obtain ⟨i, hi⟩ : ∃ i, k = i + 1 := ⟨k - 1, by omega⟩
        have hi2 : (k : Int) - 1 = (i : Int) := by omega
        rw [show k - 1 = i by omega] at f0 f1 f2 f3
        have hil : i < L.length := by omega
        have HK : Hid (fr + j = k) := hk
        have hk1 : fr + j ≤ k := by omega
        have hk2 : k ≤ fr + j := by omega
        rw [hk]
        cases hcb2 : cutB cx (L.drop fr) j with
        | false =>
          have hq : ¬ 2 * cx < x0 - y0 - y1 := of_decide_eq_false (hcut ▸ hcb2)
          have hq' : x0 - y0 - y1 ≤ 2 * cx := by omega
          have HN2 : Hid (nx cx (L.drop fr) (j + 1) = tog cx (L.drop fr)) := by show _ = _; rw [← hN]; exact (hgo (by omega) hcb2).symm
          subst e
          clear hk hi hcut hcb2 hgo hcu hen hst hN hB hCe hDe hdd hlen d1 d2 d3 f2 f3 hq
          go_wp2
          go_quiet (fail)
          have Fq : Fr 0 0 wr (wr.drewN nq) := (Fr.refl _ _ _).drewN _
          have Hq : Hid (HO _ _ _ _ _) := hO.fr Fq (fun _ _ => .inr (Nat.zero_le _)) (fun _ _ _ _ => .inr (Nat.zero_le _))
          have Bq := below_drewN' hbel nq
          clear Fq hO
          go_wp2
          go_roundw
          case rel => exact ⟨fr, j + 1, sl, dn, rfl, by rw [← Nat.add_assoc, HK.out]; first | rfl | go_num, by omega, by have := HK.out; omega, fun _ => HN2.out, by have := HK.out; omega, hdl, HDN.out, Hq.out, Bq⟩
          case measure => have := HK.out; first | (simp [intOf]; omega) | simp [intOf]
        | true =>
          have hq : 2 * cx < x0 - y0 - y1 := of_decide_eq_true (hcut ▸ hcb2)
          have hq' : ¬ x0 - y0 - y1 ≤ 2 * cx := by omega
          have HTG : Hid (tog cx (L.drop fr) = j) := by show _ = _; rw [← hN]; exact hcu (by omega) hcb2
          clear hk hi hcut hcb2 hgo hcu hen hCe hDe d1 d2 d3 f2 f3 hq
          have hlt2 : ((L.drop fr).take j).length = k - fr := by rw [List.length_take, hlen]; omega
          obtain ⟨A, hAe⟩ : ∃ A, (if vc = fr then va else Option.map (fun x => x.add (fr * 4)) va) = A := ⟨_, rfl⟩
          have hCA := hcb.seg fr vc hlc
          rw [hAe] at hCA
          obtain ⟨x, hx⟩ : ∃ x, hunkOf xs ys cx ((L.drop fr).take j) = x := ⟨_, rfl⟩
          have HST : Hid (hks xs ys cx (L.drop fr) = x :: hks xs ys cx (L.drop k)) := by show _ = _; rw [← hx]; exact (hB HTG.out).out
          have hHA := fun w S1 S2 S3 => l3Hunk cx hc0 hc5 a1 a2 A c1 c2 (vc - fr) xs ys ((L.drop fr).take j) w S1 S2 S3 k1 k2 n1 n2 z1 z2 (hcw2.take j) (by omega) (by omega)
          rw [hlt2, hx] at hHA
          have v1 : k ≤ vc := by omega
          have hA2 : A = some ⟨g, off + fr * 4, none⟩ := by rw [← hAe, e, if_neg (by omega), Option.map_some, add_plain]
          have hee := e
          have v2 : fr ≤ k := by omega
          have v3 : (fr : Int) ≤ (k : Int) := by omega
          have v4 : (k : Int) ≤ (vc : Int) := by omega
          clear hst hN hB hdd hx HTG
          clear hAe
          subst hA2
          subst hee
          go_wp2
          go_quiet (fail)
          obtain ⟨wq, hwq⟩ : ∃ W, wr.drewN nq = W := ⟨_, rfl⟩
          have Fq : Fr 0 0 wr wq := by rw [← hwq]; exact (Fr.refl _ _ _).drewN _
          have Hq := hO.fr Fq (fun _ _ => .inr (Nat.zero_le _)) (fun _ _ _ _ => .inr (Nat.zero_le _))
          have Bq : Below w1.heap.size w1 wq := by rw [← hwq]; exact below_drewN' hbel nq
          have zq := Bq.size
          rw [hwq]
          have S1 := A1.toQ Bq (by omega)
          have S2 := A2.toQ Bq (by omega)
          have C3 := hCA.bQ Bq (Nat.le_refl _)
          have hHB := hHA wq (S1.toSS (by omega)) (S2.toSS (by omega)) ((C3.take j).mono (by omega))
          clear hHA hwq Fq hO hbel hCA
          clear d0 f0 f1
          go_wp2_with fail
          refine hHB.mono ?_; rintro e w4 ⟨u, rfl, hu, b4⟩
          obtain ⟨ua, uc, eu⟩ := shapeS hu
          subst eu
          have z4 := b4.size
          have H4 := Hq.below b4
          have bl4 := below_step Bq (by omega) b4
          have hvl : ∀ j, u8.ownBlock = some j → j < wq.heap.size := fun j hj => (Hq.row.lt j hj).2
          have hel : ∀ k, k < dn.length → ∀ j, (sl k).ownBlock = some j → j < wq.heap.size := fun k hk j hj => ((Hq.each k hk).lt j hj).2
          have hub : ∀ j, (Value.slice ua x.2.2.length uc).ownBlock = some j → wq.heap.size ≤ j := fun j hj => (hu.lt j hj).1
          have hPU := fun (W5 : World) (v' : Value) o p5 g5 k5 => HO.push (w6 := W5) (v' := v') (o := o) (h := x) H4 (ownMono hu (by omega)) (fun j c1 c2 => by have := hub j c1; have := hvl j c2; omega) (fun k hk j c1 c2 => by have := hub j c1; have := hel k hk j c2; omega) p5 g5 k5
          have hrow := H4.row
          obtain ⟨ra, rc, er⟩ := shape3 hrow
          subst er
          clear hHB Hq C3 S1 S2 hel hub hvl hu b4
          go_wp2_with ((at_builtin; refine wpList_append_own_at _ rfl (.tmp 49) (.tmp 58) 25 rfl w1.heap.size 35 i1 (.agg #[.int .i64 0, .int .i64 0, .slice none 0 0]) 3 40 Tryz.underlying25 hi' hy0 hy1 hy2 rfl (by decide) _ _ _ rfl (hrow.alloc _) ⟨w4.heap.size, 0, none⟩ 1 1 [.int .i64 x.1, .int .i64 x.2.1, .slice ua x.2.2.length uc] rfl rfl (newsRow w4 #[.int .i64 x.1, .int .i64 x.2.1, .slice ua x.2.2.length uc] 35) (by simp [Value.oneCell']) (by unfold maxLen; omega) (by omega) (by simp; omega) ?_; intro v' W5 p5 g5 _ k5))
          have b5 : Below w1.heap.size w4 W5 := ((Below.refl _ _).alloc (by omega) _).grown g5 (by simp; omega) (fun j hj => (hrow.lt j hj).1)
          have B5 := bl4.trans b5
          have HH := hPU W5 v' _ p5 g5 k5
          have H5 : Hid (HO _ _ _ _ _) := HH
          have HE : Hid ((dn ++ [x]) ++ hks xs ys cx (L.drop k) = hks xs ys cx L) := by
            show _ = _
            rw [← HDN.out, HST.out, List.append_assoc]; rfl
          clear hPU HH p5 g5 k5 hrow H4 bl4 b5
          go_roundw
          case rel => exact ⟨k, 1, _, dn ++ [x], by first | rfl | go_num, by first | rfl | go_num, Nat.le_refl _, by omega, fun _ => rfl, by omega, by rw [List.length_append, List.length_singleton]; omega, HE.out, H5.out, B5⟩
          case measure => first | (simp [intOf]; omega) | simp [intOf]
      · have q2 : ¬ (k : Int) < (L.length : Int) := by omega
        have hkl : k = L.length := by omega
        obtain ⟨g, off, e, hg, d0, _⟩ := hcb (k - 1) (by omega)
        have HK : Hid (fr + j = k) := hk
        have hk1 : fr + j ≤ k := by omega
        have hk2 : k ≤ fr + j := by omega
        have HTG : Hid (tog cx (L.drop fr) = j) := by show _ = _; rw [← hN]; exact hen (by omega)
        rw [hk]
        clear hk hgo hcu hen hkl
        have hlt2 : ((L.drop fr).take j).length = k - fr := by rw [List.length_take, hlen]; omega
        obtain ⟨A, hAe⟩ : ∃ A, (if vc = fr then va else Option.map (fun x => x.add (fr * 4)) va) = A := ⟨_, rfl⟩
        have hCA := hcb.seg fr vc hlc
        rw [hAe] at hCA
        obtain ⟨x, hx⟩ : ∃ x, hunkOf xs ys cx ((L.drop fr).take j) = x := ⟨_, rfl⟩
        have HST : Hid (hks xs ys cx (L.drop fr) = x :: hks xs ys cx (L.drop k)) := by show _ = _; rw [← hx]; exact (hB HTG.out).out
        have hHA := fun w S1 S2 S3 => l3Hunk cx hc0 hc5 a1 a2 A c1 c2 (vc - fr) xs ys ((L.drop fr).take j) w S1 S2 S3 k1 k2 n1 n2 z1 z2 (hcw2.take j) (by omega) (by omega)
        rw [hlt2, hx] at hHA
        have v1 : k ≤ vc := by omega
        have hA2 : A = some ⟨g, off + fr * 4, none⟩ := by rw [← hAe, e, if_neg (by omega), Option.map_some, add_plain]
        have v2 : fr ≤ k := by omega
        have v3 : (fr : Int) ≤ (k : Int) := by omega
        have v4 : (k : Int) ≤ (vc : Int) := by omega
        clear hst hN hB hdd hx HTG
        clear hAe d0
        subst hA2
        subst e
        go_wp2
        go_quiet (fail)
        obtain ⟨wq, hwq⟩ : ∃ W, wr.drewN nq = W := ⟨_, rfl⟩
        have Fq : Fr 0 0 wr wq := by rw [← hwq]; exact (Fr.refl _ _ _).drewN _
        have Hq := hO.fr Fq (fun _ _ => .inr (Nat.zero_le _)) (fun _ _ _ _ => .inr (Nat.zero_le _))
        have Bq : Below w1.heap.size w1 wq := by rw [← hwq]; exact below_drewN' hbel nq
        have zq := Bq.size
        rw [hwq]
        have S1 := A1.toQ Bq (by omega)
        have S2 := A2.toQ Bq (by omega)
        have C3 := hCA.bQ Bq (Nat.le_refl _)
        have hHB := hHA wq (S1.toSS (by omega)) (S2.toSS (by omega)) ((C3.take j).mono (by omega))
        clear hHA hwq Fq hO hbel hCA
        go_wp2_with fail
        refine hHB.mono ?_; rintro e w4 ⟨u, rfl, hu, b4⟩
        obtain ⟨ua, uc, eu⟩ := shapeS hu
        subst eu
        have z4 := b4.size
        have H4 := Hq.below b4
        have bl4 := below_step Bq (by omega) b4
        have hvl : ∀ j, u8.ownBlock = some j → j < wq.heap.size := fun j hj => (Hq.row.lt j hj).2
        have hel : ∀ k, k < dn.length → ∀ j, (sl k).ownBlock = some j → j < wq.heap.size := fun k hk j hj => ((Hq.each k hk).lt j hj).2
        have hub : ∀ j, (Value.slice ua x.2.2.length uc).ownBlock = some j → wq.heap.size ≤ j := fun j hj => (hu.lt j hj).1
        have hPU := fun (W5 : World) (v' : Value) o p5 g5 k5 => HO.push (w6 := W5) (v' := v') (o := o) (h := x) H4 (ownMono hu (by omega)) (fun j c1 c2 => by have := hub j c1; have := hvl j c2; omega) (fun k hk j c1 c2 => by have := hub j c1; have := hel k hk j c2; omega) p5 g5 k5
        have hrow := H4.row
        obtain ⟨ra, rc, er⟩ := shape3 hrow
        subst er
        clear hHB Hq C3 S1 S2 hel hub hvl hu b4
        go_wp2_with ((at_builtin; refine wpList_append_own_at _ rfl (.tmp 49) (.tmp 58) 25 rfl w1.heap.size 35 i1 (.agg #[.int .i64 0, .int .i64 0, .slice none 0 0]) 3 40 Tryz.underlying25 hi' hy0 hy1 hy2 rfl (by decide) _ _ _ rfl (hrow.alloc _) ⟨w4.heap.size, 0, none⟩ 1 1 [.int .i64 x.1, .int .i64 x.2.1, .slice ua x.2.2.length uc] rfl rfl (newsRow w4 #[.int .i64 x.1, .int .i64 x.2.1, .slice ua x.2.2.length uc] 35) (by simp [Value.oneCell']) (by unfold maxLen; omega) (by omega) (by simp; omega) ?_; intro v' W5 p5 g5 _ k5))
        have b5 : Below w1.heap.size w4 W5 := ((Below.refl _ _).alloc (by omega) _).grown g5 (by simp; omega) (fun j hj => (hrow.lt j hj).1)
        have B5 := bl4.trans b5
        have HH := hPU W5 v' _ p5 g5 k5
        have H5 : Hid (HO _ _ _ _ _) := HH
        have HE : Hid ((dn ++ [x]) ++ hks xs ys cx (L.drop k) = hks xs ys cx L) := by
          show _ = _
          rw [← HDN.out, HST.out, List.append_assoc]; rfl
        clear hPU HH p5 g5 k5 hrow H4 bl4 b5
        go_roundw
        case rel => exact ⟨k, 1, _, dn ++ [x], by first | rfl | go_num, by first | rfl | go_num, Nat.le_refl _, by omega, fun _ => rfl, by omega, by rw [List.length_append, List.length_singleton]; omega, HE.out, H5.out, B5⟩
        case measure => first | (simp [intOf]; omega) | simp [intOf]
    · have q : ¬ (k : Int) ≤ (L.length : Int) := by omega
      have hfl : fr = L.length := by omega
      have hdn : dn = hks xs ys cx L := by
        have h := HDN.out
        rw [hks_nil xs ys cx (cs := L.drop fr) (by rw [List.length_drop]; omega), List.append_nil] at h; exact h
      have HD : Hid (dn = hks xs ys cx L) := hdn
      have HH : Hid (HO w.heap.size wr u8 dn sl) := hO.mono zz1
      have HB := b1.trans (hbel.mono zz1)
      rw [hk]
      clear hdn hO hbel hfl
      go_wp2
      go_ret
      rw [← HD.out]
      exact ⟨_, sl, rfl, HH.out, HB⟩

/-- What HunksOf tells is of a size that the laws can hold. -/
theorem hoL_mem {xs ys : List ByteArray} {cx : Int} {h : Hk} (hm : h ∈ hoL xs ys cx) : xs.length ≤ 100 ∧ ys.length ≤ 100 ∧ tot xs ≤ 2000 ∧ tot ys ≤ 2000 ∧ ∃ i j, h = hunkOf xs ys cx (((changes xs ys).drop i).take j) := by
  unfold hoL at hm
  split at hm
  · rename_i hc
    obtain ⟨hx, hy⟩ := asked_zero hc.1
    exact ⟨(lf_zero hx).1, (lf_zero hy).1, (lf_zero hx).2, (lf_zero hy).2, hks_mem xs ys cx _ _ (Nat.le_refl _) h hm⟩
  · cases hm
theorem hoL_lines {xs ys : List ByteArray} {cx : Int} {h : Hk} (hm : h ∈ hoL xs ys cx) : h.2.2.length ≤ 30400 ∧ ∀ s ∈ h.2.2, s.size ≤ 2001 := by
  obtain ⟨n1, n2, t1, t2, i, j, rfl⟩ := hoL_mem hm
  have hl := changes_length xs ys n1
  have hcl : (((changes xs ys).drop i).take j).length ≤ 101 := by rw [List.length_take, List.length_drop]; omega
  have h1 := hunkL_length (((changes_cw xs ys).drop i).take j) n1 n2 cx
  refine ⟨?_, ?_⟩
  · show (hunkL xs ys cx _).length ≤ _
    omega
  · intro s hs
    exact hunkL_small (fun x hx => by have := totM hx; omega) (fun x hx => by have := totM hx; omega) cx _ s hs
theorem hoL_length (xs ys : List ByteArray) (cx : Int) : (hoL xs ys cx).length ≤ 101 := by
  unfold hoL
  split
  · rename_i hc
    obtain ⟨hx, hy⟩ := asked_zero hc.1
    have h1 := hks_length xs ys cx _ (changes xs ys) (Nat.le_refl _)
    have h2 := changes_length xs ys (lf_zero hx).1
    omega
  · exact Nat.zero_le _
theorem mkN_le_of {l : List Hk} {Z : Nat} (h : ∀ x ∈ l, x.2.2.length ≤ Z) : ∀ k, mkN l k ≤ k * (2 + Z) := by
  intro k
  induction k with
  | zero => simp [mkN]
  | succ k ih =>
    by_cases hk : k < l.length
    · rw [mkN_succ l k hk]
      have := h _ (getD_mem l k hk)
      rw [Nat.add_mul]; omega
    · have e : mkN l (k + 1) = mkN l k := by unfold mkN; rw [List.take_of_length_le (by omega), List.take_of_length_le (by omega)]
      rw [e, Nat.add_mul]; omega
theorem hoL_mk (xs ys : List ByteArray) (cx : Int) : 1 + mkN (hoL xs ys cx) (hoL xs ys cx).length ≤ 4194304 := by
  have h1 := mkN_le_of (Z := 30400) (fun x hx => (hoL_lines (xs := xs) (ys := ys) (cx := cx) hx).1) (hoL xs ys cx).length
  have h2 := hoL_length xs ys cx
  have h3 : (hoL xs ys cx).length * (2 + 30400) ≤ 101 * (2 + 30400) := Nat.mul_le_mul_right _ h2
  omega
end Go.Proofs.YtnkbjbbaoddfkaaGreatDoor
