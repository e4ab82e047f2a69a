/- Proved: at every two lists of lines and every list of changes FnExactWeaveChanges returns true (WeaveChanges answers as its specification, field by field; its answer owns its memory, behind another call too; no argument is changed). No condition: FnExactWeaveChangesSaid itself. -/
import Derived.Test.YtidjcjeiigjmaahRows
import Derived.Test.YtidjcjeiigjmaahLem
import Derived.Test.YtidjcjeiigjmaahStrs
import Derived.Test.YtidjcjeiigjmaahMarks
import Derived.Test.YtidjcjeiigjmaahHeld
import Derived.Test.YtidjcjeiigjmaahLFLem
import Derived.Test.YtidjcjeiigjmaahLF
import Derived.Test.YtidjcjeiigjmaahCom
import Derived.Test.YtidjcjeiigjmaahAsked
import Derived.Test.YtidjcjeiigjmaahDTab
import Derived.Test.YtidjcjeiigjmaahSTab
import Derived.Test.YtidjcjeiigjmaahPairs
import Derived.Test.YtidjcjeiigjmaahIntS
import Derived.Test.YtidjcjeiigjmaahFr
import Derived.Test.YtidjcjeiigjmaahChg
import Derived.Test.YtidjcjeiigjmaahEdC
import Derived.Test.YtidjcjeiigjmaahChR
import Derived.Test.YtidjcjeiigjmaahCFC
import Derived.Test.YtidjcjeiigjmaahCFI
import Derived.Test.YtidjcjeiigjmaahCFS
import Derived.Test.YtidjcjeiigjmaahToC
import Derived.Test.YtidjcjeiigjmaahOpC
import Derived.Test.YtidjcjeiigjmaahLnR
import Derived.Test.YtidjcjeiigjmaahWvC
import Derived.Test.YtidjcjeiigjmaahWvL
import Derived.Test.YtidjcjeiigjmaahWvI
import Derived.Test.YtidjcjeiigjmaahWvF
import Derived.Test.YtidjcjeiigjmaahWvS
import Derived.WalkKit
import Derived.ProofKit
import Derived.OpenShut
import Derived.Below
import Derived.Carry
namespace Go.Proofs.Ytidjcjeiigjmaah.WvLaw
open Go.ChangeShapes Go.WideShapes Go.ChangeAt Go.RowKit

theorem ownOne (b n cap : Nat) : ∀ j, (Value.slice (some ⟨b, 0, none⟩) n cap).ownBlock = some j → b ≤ j ∧ j < b + 1 := by
  intro j hj
  have e : b = j := by simpa [Value.ownBlock] using hj
  omega

set_option maxRecDepth 20000 in
set_option maxHeartbeats 4000000 in
theorem walk (a1 a2 a3 : Option Addr) (c1 c2 c3 : Nat) (xs ys : List ByteArray) (l : List Chg) (w : World) (h1 : SS w a1 xs) (h2 : SS w a2 ys) (h3 : CB w.heap.size w a3 l) (hr : Rng l) (hn : xs.length ≤ 9223372036854775807) (hm : ys.length ≤ 9223372036854775807) (hk : l.length ≤ 9223372036854775807) :
    Calls Try.prog 5 #[.slice a1 xs.length c1, .slice a2 ys.length c2, .slice a3 l.length c3] w fun e w' => e = .returned (.bool true) ∧ Below w.heap.size w w' := by
  by_cases hx : left 1048576 xs < 0
  · go_enter Try.func5, Try.ntmps5
    go_wp2_with (go_at_call 9; refine (szStringS _ _ _ _ _ h1 hn (by omega) (by omega)).mono ?_; rintro e w' ⟨rfl, rfl⟩)
    go_ret
    exact ⟨rfl, Below.refl _ _⟩
  obtain ⟨e1, g1, k1⟩ := left_ge hx
  have ht := tot_nonneg xs
  have hl0 : 0 ≤ left 1048576 xs := by omega
  have hl1 : left 1048576 xs ≤ 1048576 := by omega
  by_cases hy : left (left 1048576 xs) ys < 0
  · clear e1 hx
    go_enter Try.func5, Try.ntmps5
    go_wp2_with fail
    refine (szStringS _ _ _ _ _ h1 hn (by omega) (by omega)).mono ?_; rintro e w' ⟨rfl, rfl⟩
    go_wp2_with fail
    refine (szStringS _ _ _ _ _ h2 hm hl0 hl1).mono ?_; rintro e w' ⟨rfl, rfl⟩
    go_wp2_with fail
    go_ret
    exact ⟨rfl, Below.refl _ _⟩
  obtain ⟨e2, g2, k2⟩ := left_ge hy
  have ht2 := tot_nonneg ys
  have hxs : xs.length ≤ 1048576 := by omega
  have hys : ys.length ≤ 1048576 := by omega
  have htx : tot xs ≤ 1048576 := by omega
  have hty : tot ys ≤ 1048576 := by omega
  have zx := h1.1
  have zy := h2.1
  have hq0 : 0 ≤ left (left 1048576 xs) ys := by omega
  have hq1 : left (left 1048576 xs) ys ≤ 1048576 := by omega
  obtain ⟨Q, hQ⟩ : ∃ Q, left (left 1048576 xs) ys = Q := ⟨_, rfl⟩
  rw [hQ] at hq0 hq1 hy
  have HQ : Hid (left (left 1048576 xs) ys = Q) := hQ
  clear e1 e2 g1 k1 g2 k2 ht ht2 hQ
  by_cases hz : leftC Q l.length < 0
  · clear zx zy
    go_enter Try.func5, Try.ntmps5
    go_wp2_with fail
    refine (szStringS _ _ _ _ _ h1 hn (by omega) (by omega)).mono ?_; rintro e w' ⟨rfl, rfl⟩
    go_wp2_with fail
    refine (szStringS _ _ _ _ _ h2 hm hl0 hl1).mono ?_; rintro e w' ⟨rfl, rfl⟩
    rw [HQ.out]
    go_wp2_with fail
    refine (szChangeS _ _ _ _ _ hk hq0 hq1).mono ?_; rintro e w' ⟨rfl, rfl⟩
    go_wp2_with fail
    go_ret
    exact ⟨rfl, Below.refl _ _⟩
  have hls : l.length ≤ 1048576 := by
    unfold leftC at hz
    split at hz <;> omega
  have hS : ∀ (g1 g2 : Nat) (a3 : Option Addr) (c3 : Nat) w, SS w (some ⟨g1, 0, none⟩) xs → SS w (some ⟨g2, 0, none⟩) ys → CB w.heap.size w a3 l → Calls Try.prog 22 #[.slice (some ⟨g1, 0, none⟩) xs.length xs.length, .slice (some ⟨g2, 0, none⟩) ys.length ys.length, .slice a3 l.length c3] w fun e w' => LP (wvCode xs ys l) (wvLines xs ys l) w e w' := fun g1 g2 a3 c3 w h1 h2 h3 => specWeaveChanges g1 g2 a3 xs.length ys.length c3 xs ys l w h1 h2 h3 (Nat.le_refl _) (Nat.le_refl _) hxs hys hls htx hty
  have hI : ∀ (g1 g2 : Nat) (a3 : Option Addr) (c3 : Nat) w, SS w (some ⟨g1, 0, none⟩) xs → SS w (some ⟨g2, 0, none⟩) ys → CB w.heap.size w a3 l → Calls Try.prog 24 #[.slice (some ⟨g1, 0, none⟩) xs.length xs.length, .slice (some ⟨g2, 0, none⟩) ys.length ys.length, .slice a3 l.length c3] w fun e w' => LP (wvCode xs ys l) (wvLines xs ys l) w e w' := fun g1 g2 a3 c3 w h1 h2 h3 => implWeaveChanges _ _ a3 xs.length ys.length c3 xs ys l w h1 h2 h3 hr (Nat.le_refl _) (Nat.le_refl _) hxs hys hls htx hty
  have hLn := wvLines_length xs ys l
  have zL : ∀ k, k < (wvLines xs ys l).length → ((wvLines xs ys l).getD k ByteArray.empty).size ≤ 9223372036854775807 := by
    intro k hk
    rw [getD_at _ k hk]
    rcases wvLines_mem (List.getElem_mem hk) with h | h <;> (have := tot_mem h; omega)
  obtain ⟨r, hrr⟩ : ∃ r, wvCode xs ys l = r := ⟨_, rfl⟩
  obtain ⟨L, hL⟩ : ∃ L, wvLines xs ys l = L := ⟨_, rfl⟩
  rw [hrr, hL] at hS hI
  rw [hL] at hLn zL
  clear hrr hL
  have A3 := h3
  clear h3
  have A1 : SSB w.heap.size w a1 xs := h1
  have A2 : SSB w.heap.size w a2 ys := h2
  have BB := Below.refl w.heap.size w
  clear h1 h2
  go_enter Try.func5, Try.ntmps5
  go_wp2_with fail
  refine (szStringS _ _ _ _ _ (A1.toSS (Nat.le_refl _)) hn (by omega) (by omega)).mono ?_; rintro e w ⟨rfl, rfl⟩
  go_wp2_with fail
  refine (szStringS _ _ _ _ _ (A2.toSS (Nat.le_refl _)) hm hl0 hl1).mono ?_; rintro e w ⟨rfl, rfl⟩
  rw [HQ.out]
  go_wp2_with fail
  refine (szChangeS _ _ _ _ _ hk hq0 hq1).mono ?_; rintro e w ⟨rfl, rfl⟩
  go_wp2_with fail
  refine (toStringS' _ _ _ _ (A1.toSS (by omega)) hxs).mono ?_; rintro e w1 ⟨rfl, x, b, zw1⟩
  have F2 : Fr w.heap.size w.heap.size w w1 := Fr.ofBelow b
  replace A1 := F2.ssb A1 (by omega)
  replace A2 := F2.ssb A2 (by omega)
  replace BB := F2.below BB (by omega) (by omega)
  replace A3 := A3.fr F2 (.inl (by omega))
  have SF2 := F2.size
  clear b F2
  go_wp2_with fail
  refine (toStringS' _ _ _ _ (A2.toSS (by omega)) hys).mono ?_; rintro e w3 ⟨rfl, y, b, zw3⟩
  have F4 : Fr w.heap.size w.heap.size w1 w3 := Fr.ofBelow b
  replace A1 := F4.ssb A1 (by omega)
  replace A2 := F4.ssb A2 (by omega)
  replace BB := F4.below BB (by omega) (by omega)
  replace A3 := A3.fr F4 (.inl (by omega))
  replace x := x.below b
  have SF4 := F4.size
  clear b F4
  go_wp2_with fail
  refine (toChangeS _ _ _ _ _ A3 hls).mono ?_; rintro e w5 ⟨rfl, z, b⟩
  have jz : ∀ j, (Value.slice (some ⟨w3.heap.size, 0, none⟩) l.length l.length).ownBlock = some j → w3.heap.size ≤ j ∧ j < w5.heap.size := fun j hj => z.lt j hj
  have zw5 := (z.lt w3.heap.size rfl).2
  have F6 : Fr w.heap.size w.heap.size w3 w5 := Fr.ofBelow b
  replace A1 := F6.ssb A1 (by omega)
  replace A2 := F6.ssb A2 (by omega)
  replace BB := F6.below BB (by omega) (by omega)
  replace A3 := A3.fr F6 (.inl (by omega))
  replace x := x.below b
  replace y := y.below b
  have SF6 := F6.size
  clear b F6
  go_wp2_with fail
  refine (hS _ _ _ _ _ x y (cbOf z)).mono ?_; rintro e w7 ⟨v, rfl, hp, bp⟩
  obtain ⟨pa, pc, rfl⟩ := shapeS hp
  have p1 := hp
  have jp1 : ∀ j, (Value.slice pa L.length pc).ownBlock = some j → w5.heap.size ≤ j ∧ j < w7.heap.size := fun j hj => p1.lt j hj
  clear hp
  have F8 : Fr w.heap.size w.heap.size w5 w7 := Fr.ofBelow bp
  replace A1 := F8.ssb A1 (by omega)
  replace A2 := F8.ssb A2 (by omega)
  replace BB := F8.below BB (by omega) (by omega)
  replace A3 := A3.fr F8 (.inl (by omega))
  replace x := x.below bp
  replace y := y.below bp
  replace z := F8.own z (fun j hj => by have := jz j hj; omega)
  have SF8 := F8.size
  clear F8 bp
  clear x y
  clear z
  go_wp2_with fail
  obtain ⟨W9, hW9⟩ : ∃ W, w7.alloc (.cells #[.int .i64 r, .slice pa L.length pc] 39) = W := ⟨_, rfl⟩
  have Rp : Rs W9 w7.heap.size [.int .i64 r, .slice pa L.length pc] := by rw [← hW9]; exact Rs.new _ _ _
  have F10 : Fr w.heap.size w.heap.size w7 W9 := by rw [← hW9]; exact Fr.ofAlloc _ _
  have zW9 : w7.heap.size < W9.heap.size := by rw [← hW9]; simp
  rw [hW9]
  clear hW9
  replace A1 := F10.ssb A1 (by omega)
  replace A2 := F10.ssb A2 (by omega)
  replace BB := F10.below BB (by omega) (by omega)
  replace A3 := A3.fr F10 (.inl (by omega))
  replace p1 := F10.own p1 (fun j hj => by have := jp1 j hj; omega)
  have SF10 := F10.size
  clear F10
  refine (toStringS _ _ _ _ (A1.toSS (by omega)) hxs).mono ?_; rintro e w11 ⟨rfl, X, b⟩
  have zw11 := size_of_owns X
  have F12 : Fr w.heap.size w.heap.size W9 w11 := Fr.ofBelow b
  replace A1 := F12.ssb A1 (by omega)
  replace A2 := F12.ssb A2 (by omega)
  replace BB := F12.below BB (by omega) (by omega)
  replace A3 := A3.fr F12 (.inl (by omega))
  replace p1 := F12.own p1 (fun j hj => by have := jp1 j hj; omega)
  replace Rp := F12.rs Rp (by omega)
  have SF12 := F12.size
  clear b F12
  have jX : ∀ j, (Value.slice (some ⟨W9.heap.size, 0, none⟩) xs.length xs.length).ownBlock = some j → W9.heap.size ≤ j ∧ j < w11.heap.size := fun j hj => X.lt j hj
  go_wp2_with fail
  refine (toStringS _ _ _ _ (A2.toSS (by omega)) hys).mono ?_; rintro e w13 ⟨rfl, Y, b⟩
  have zw13 := size_of_owns Y
  have F14 : Fr w.heap.size w.heap.size w11 w13 := Fr.ofBelow b
  replace A1 := F14.ssb A1 (by omega)
  replace A2 := F14.ssb A2 (by omega)
  replace BB := F14.below BB (by omega) (by omega)
  replace A3 := A3.fr F14 (.inl (by omega))
  replace p1 := F14.own p1 (fun j hj => by have := jp1 j hj; omega)
  replace Rp := F14.rs Rp (by omega)
  replace X := F14.own X (fun j hj => by have := jX j hj; omega)
  have SF14 := F14.size
  clear b F14
  have jY : ∀ j, (Value.slice (some ⟨w11.heap.size, 0, none⟩) ys.length ys.length).ownBlock = some j → w11.heap.size ≤ j ∧ j < w13.heap.size := fun j hj => Y.lt j hj
  go_wp2_with fail
  refine (toChangeS _ _ _ _ _ A3 hls).mono ?_; rintro e w15 ⟨rfl, Z, b⟩
  have jZ : ∀ j, (Value.slice (some ⟨w13.heap.size, 0, none⟩) l.length l.length).ownBlock = some j → w13.heap.size ≤ j ∧ j < w15.heap.size := fun j hj => Z.lt j hj
  have zw15 := (Z.lt w13.heap.size rfl).2
  have F16 : Fr w.heap.size w.heap.size w13 w15 := Fr.ofBelow b
  replace A1 := F16.ssb A1 (by omega)
  replace A2 := F16.ssb A2 (by omega)
  replace BB := F16.below BB (by omega) (by omega)
  replace A3 := A3.fr F16 (.inl (by omega))
  replace p1 := F16.own p1 (fun j hj => by have := jp1 j hj; omega)
  replace Rp := F16.rs Rp (by omega)
  replace X := F16.own X (fun j hj => by have := jX j hj; omega)
  replace Y := F16.own Y (fun j hj => by have := jY j hj; omega)
  have SF16 := F16.size
  clear b F16
  go_wp2_with fail
  refine (hI _ _ _ _ _ (ownSS X zx) (ownSS Y zy) (cbOf Z)).mono ?_; rintro e w17 ⟨v, rfl, hq, bq⟩
  obtain ⟨qa, qc, rfl⟩ := shapeS hq
  have q1 := hq
  have jq1 : ∀ j, (Value.slice qa L.length qc).ownBlock = some j → w15.heap.size ≤ j ∧ j < w17.heap.size := fun j hj => q1.lt j hj
  clear hq
  have F18 : Fr w.heap.size w.heap.size w15 w17 := Fr.ofBelow bq
  replace A1 := F18.ssb A1 (by omega)
  replace A2 := F18.ssb A2 (by omega)
  replace BB := F18.below BB (by omega) (by omega)
  replace A3 := A3.fr F18 (.inl (by omega))
  replace p1 := F18.own p1 (fun j hj => by have := jp1 j hj; omega)
  replace Rp := F18.rs Rp (by omega)
  replace X := F18.own X (fun j hj => by have := jX j hj; omega)
  replace Y := F18.own Y (fun j hj => by have := jY j hj; omega)
  replace Z := F18.own Z (fun j hj => by have := jZ j hj; omega)
  have SF18 := F18.size
  clear F18 bq
  have d0 := fun o => (Fr.ofAlloc (lo := 0) (hi := 0) w17 o).cell (Rp 0 _ rfl) (.inr (Nat.zero_le _))
  have d1 := fun o => (Fr.ofAlloc (lo := 0) (hi := 0) w17 o).cell (Rp 1 _ rfl) (.inr (Nat.zero_le _))
  go_wp2_with fail
  obtain ⟨W19, hW19⟩ : ∃ W, w17.alloc (.cells #[.int .i64 r, .slice qa L.length qc] 39) = W := ⟨_, rfl⟩
  have Rq : Rs W19 w17.heap.size [.int .i64 r, .slice qa L.length qc] := by rw [← hW19]; exact Rs.new _ _ _
  have F20 : Fr w.heap.size w.heap.size w17 W19 := by rw [← hW19]; exact Fr.ofAlloc _ _
  have zW19 : w17.heap.size < W19.heap.size := by rw [← hW19]; simp
  rw [hW19]
  clear hW19
  clear d0 d1
  replace A1 := F20.ssb A1 (by omega)
  replace A2 := F20.ssb A2 (by omega)
  replace BB := F20.below BB (by omega) (by omega)
  replace A3 := A3.fr F20 (.inl (by omega))
  replace p1 := F20.own p1 (fun j hj => by have := jp1 j hj; omega)
  replace Rp := F20.rs Rp (by omega)
  replace X := F20.own X (fun j hj => by have := jX j hj; omega)
  replace Y := F20.own Y (fun j hj => by have := jY j hj; omega)
  replace Z := F20.own Z (fun j hj => by have := jZ j hj; omega)
  replace q1 := F20.own q1 (fun j hj => by have := jq1 j hj; omega)
  have SF20 := F20.size
  clear F20
  refine (eqLinesResult _ _ _ _ _ _ _ (ownSS q1 zL) (ownSS p1 zL) (by omega)).mono ?_; rintro e w21 ⟨rfl, b⟩
  have F22 : Fr w.heap.size w.heap.size W19 w21 := Fr.ofBelow b
  replace A1 := F22.ssb A1 (by omega)
  replace A2 := F22.ssb A2 (by omega)
  replace BB := F22.below BB (by omega) (by omega)
  replace A3 := A3.fr F22 (.inl (by omega))
  replace p1 := F22.own p1 (fun j hj => by have := jp1 j hj; omega)
  replace Rp := F22.rs Rp (by omega)
  replace X := F22.own X (fun j hj => by have := jX j hj; omega)
  replace Y := F22.own Y (fun j hj => by have := jY j hj; omega)
  replace Z := F22.own Z (fun j hj => by have := jZ j hj; omega)
  replace q1 := F22.own q1 (fun j hj => by have := jq1 j hj; omega)
  replace Rq := F22.rs Rq (by omega)
  have SF22 := F22.size
  clear b F22
  go_wp2_with fail
  refine (toStringS' _ _ _ _ (A1.toSS (by omega)) hxs).mono ?_; rintro e w23 ⟨rfl, x, b, zw23⟩
  have F24 : Fr w.heap.size w.heap.size w21 w23 := Fr.ofBelow b
  replace A1 := F24.ssb A1 (by omega)
  replace A2 := F24.ssb A2 (by omega)
  replace BB := F24.below BB (by omega) (by omega)
  replace A3 := A3.fr F24 (.inl (by omega))
  replace p1 := F24.own p1 (fun j hj => by have := jp1 j hj; omega)
  replace Rp := F24.rs Rp (by omega)
  replace X := F24.own X (fun j hj => by have := jX j hj; omega)
  replace Y := F24.own Y (fun j hj => by have := jY j hj; omega)
  replace Z := F24.own Z (fun j hj => by have := jZ j hj; omega)
  replace q1 := F24.own q1 (fun j hj => by have := jq1 j hj; omega)
  replace Rq := F24.rs Rq (by omega)
  have SF24 := F24.size
  clear b F24
  go_wp2_with fail
  refine (eqStringS _ _ _ _ _ _ _ (ownSS X zx) x hxs hxs).mono ?_; rintro e w' ⟨rfl, nw23, rfl⟩
  rw [eqB_self]
  clear x
  obtain ⟨w26, hw26⟩ : ∃ W, w23.drewN nw23 = W := ⟨_, rfl⟩
  have F25 : Fr w.heap.size w.heap.size w23 w26 := by rw [← hw26]; exact (Fr.refl _ _ _).drewN _
  rw [hw26]
  clear hw26
  replace A1 := F25.ssb A1 (by omega)
  replace A2 := F25.ssb A2 (by omega)
  replace BB := F25.below BB (by omega) (by omega)
  replace A3 := A3.fr F25 (.inl (by omega))
  replace p1 := F25.own p1 (fun j hj => by have := jp1 j hj; omega)
  replace Rp := F25.rs Rp (by omega)
  replace X := F25.own X (fun j hj => by have := jX j hj; omega)
  replace Y := F25.own Y (fun j hj => by have := jY j hj; omega)
  replace Z := F25.own Z (fun j hj => by have := jZ j hj; omega)
  replace q1 := F25.own q1 (fun j hj => by have := jq1 j hj; omega)
  replace Rq := F25.rs Rq (by omega)
  have SF25 := F25.size
  clear F25
  go_wp2_with fail
  refine (toStringS' _ _ _ _ (A2.toSS (by omega)) hys).mono ?_; rintro e w27 ⟨rfl, x, b, zw27⟩
  have F28 : Fr w.heap.size w.heap.size w26 w27 := Fr.ofBelow b
  replace A1 := F28.ssb A1 (by omega)
  replace A2 := F28.ssb A2 (by omega)
  replace BB := F28.below BB (by omega) (by omega)
  replace A3 := A3.fr F28 (.inl (by omega))
  replace p1 := F28.own p1 (fun j hj => by have := jp1 j hj; omega)
  replace Rp := F28.rs Rp (by omega)
  replace X := F28.own X (fun j hj => by have := jX j hj; omega)
  replace Y := F28.own Y (fun j hj => by have := jY j hj; omega)
  replace Z := F28.own Z (fun j hj => by have := jZ j hj; omega)
  replace q1 := F28.own q1 (fun j hj => by have := jq1 j hj; omega)
  replace Rq := F28.rs Rq (by omega)
  have SF28 := F28.size
  clear b F28
  go_wp2_with fail
  refine (eqStringS _ _ _ _ _ _ _ (ownSS Y zy) x hys hys).mono ?_; rintro e w' ⟨rfl, nw27, rfl⟩
  rw [eqB_self]
  clear x
  obtain ⟨w30, hw30⟩ : ∃ W, w27.drewN nw27 = W := ⟨_, rfl⟩
  have F29 : Fr w.heap.size w.heap.size w27 w30 := by rw [← hw30]; exact (Fr.refl _ _ _).drewN _
  rw [hw30]
  clear hw30
  replace A1 := F29.ssb A1 (by omega)
  replace A2 := F29.ssb A2 (by omega)
  replace BB := F29.below BB (by omega) (by omega)
  replace A3 := A3.fr F29 (.inl (by omega))
  replace p1 := F29.own p1 (fun j hj => by have := jp1 j hj; omega)
  replace Rp := F29.rs Rp (by omega)
  replace X := F29.own X (fun j hj => by have := jX j hj; omega)
  replace Y := F29.own Y (fun j hj => by have := jY j hj; omega)
  replace Z := F29.own Z (fun j hj => by have := jZ j hj; omega)
  replace q1 := F29.own q1 (fun j hj => by have := jq1 j hj; omega)
  replace Rq := F29.rs Rq (by omega)
  have SF29 := F29.size
  clear F29
  go_wp2_with fail
  refine (toChangeS _ _ _ _ _ A3 hls).mono ?_; rintro e w31 ⟨rfl, z, b⟩
  have jz : ∀ j, (Value.slice (some ⟨w30.heap.size, 0, none⟩) l.length l.length).ownBlock = some j → w30.heap.size ≤ j ∧ j < w31.heap.size := fun j hj => z.lt j hj
  have zw31 := (z.lt w30.heap.size rfl).2
  have F32 : Fr w.heap.size w.heap.size w30 w31 := Fr.ofBelow b
  replace A1 := F32.ssb A1 (by omega)
  replace A2 := F32.ssb A2 (by omega)
  replace BB := F32.below BB (by omega) (by omega)
  replace A3 := A3.fr F32 (.inl (by omega))
  replace p1 := F32.own p1 (fun j hj => by have := jp1 j hj; omega)
  replace Rp := F32.rs Rp (by omega)
  replace X := F32.own X (fun j hj => by have := jX j hj; omega)
  replace Y := F32.own Y (fun j hj => by have := jY j hj; omega)
  replace Z := F32.own Z (fun j hj => by have := jZ j hj; omega)
  replace q1 := F32.own q1 (fun j hj => by have := jq1 j hj; omega)
  replace Rq := F32.rs Rq (by omega)
  have SF32 := F32.size
  clear b F32
  go_wp2_with fail
  refine (eqChangeS _ _ _ _ _ _ _ _ (cbOf Z) (cbOf z) hls).mono ?_; rintro e w33 ⟨rfl, b⟩
  clear z
  have F34 : Fr w.heap.size w.heap.size w31 w33 := Fr.ofBelow b
  replace A1 := F34.ssb A1 (by omega)
  replace A2 := F34.ssb A2 (by omega)
  replace BB := F34.below BB (by omega) (by omega)
  replace A3 := A3.fr F34 (.inl (by omega))
  replace p1 := F34.own p1 (fun j hj => by have := jp1 j hj; omega)
  replace Rp := F34.rs Rp (by omega)
  replace X := F34.own X (fun j hj => by have := jX j hj; omega)
  replace Y := F34.own Y (fun j hj => by have := jY j hj; omega)
  replace Z := F34.own Z (fun j hj => by have := jZ j hj; omega)
  replace q1 := F34.own q1 (fun j hj => by have := jq1 j hj; omega)
  replace Rq := F34.rs Rq (by omega)
  have SF34 := F34.size
  clear b F34
  go_wp2_with fail
  refine (markStringS _ _ _ _ (1) _ _ (by omega) (by omega) X).mono ?_; rintro e w35 ⟨rfl, o, gg⟩
  have F36 : Fr W9.heap.size (W9.heap.size + 1) w33 w35 := Fr.ofGrown gg (ownOne _ _ _)
  clear o gg X
  replace A1 := F36.ssb A1 (by omega)
  replace A2 := F36.ssb A2 (by omega)
  replace BB := F36.below BB (by omega) (by omega)
  replace A3 := A3.fr F36 (.inl (by omega))
  replace p1 := F36.own p1 (fun j hj => by have := jp1 j hj; omega)
  replace Rp := F36.rs Rp (by omega)
  replace Y := F36.own Y (fun j hj => by have := jY j hj; omega)
  replace Z := F36.own Z (fun j hj => by have := jZ j hj; omega)
  replace q1 := F36.own q1 (fun j hj => by have := jq1 j hj; omega)
  replace Rq := F36.rs Rq (by omega)
  have SF36 := F36.size
  clear F36
  go_wp2_with fail
  refine (markStringS _ _ _ _ (1 + xs.length) _ _ (by omega) (by omega) Y).mono ?_; rintro e w37 ⟨rfl, o, gg⟩
  have F38 : Fr w11.heap.size (w11.heap.size + 1) w35 w37 := Fr.ofGrown gg (ownOne _ _ _)
  clear o gg Y
  replace A1 := F38.ssb A1 (by omega)
  replace A2 := F38.ssb A2 (by omega)
  replace BB := F38.below BB (by omega) (by omega)
  replace A3 := A3.fr F38 (.inl (by omega))
  replace p1 := F38.own p1 (fun j hj => by have := jp1 j hj; omega)
  replace Rp := F38.rs Rp (by omega)
  replace Z := F38.own Z (fun j hj => by have := jZ j hj; omega)
  replace q1 := F38.own q1 (fun j hj => by have := jq1 j hj; omega)
  replace Rq := F38.rs Rq (by omega)
  have SF38 := F38.size
  clear F38
  go_wp2_with fail
  refine (markChangeS _ _ _ (1 + xs.length + ys.length) _ _ (by omega) Z).mono ?_; rintro e w39 ⟨rfl, o, gg⟩
  have F40 : Fr w13.heap.size (w13.heap.size + 1) w37 w39 := Fr.ofGrown gg (ownOne _ _ _)
  clear o gg Z
  replace A1 := F40.ssb A1 (by omega)
  replace A2 := F40.ssb A2 (by omega)
  replace BB := F40.below BB (by omega) (by omega)
  replace A3 := A3.fr F40 (.inl (by omega))
  replace p1 := F40.own p1 (fun j hj => by have := jp1 j hj; omega)
  replace Rp := F40.rs Rp (by omega)
  replace q1 := F40.own q1 (fun j hj => by have := jq1 j hj; omega)
  replace Rq := F40.rs Rq (by omega)
  have SF40 := F40.size
  clear F40
  obtain ⟨K, hK⟩ : ∃ K : Int, ((1 + xs.length + ys.length + l.length * 4 : Nat) : Int) = K := ⟨_, rfl⟩
  have hK0 : ¬ K < 0 := by omega
  rw [hK]
  clear hK
  have dp0 := Rp 0 _ rfl
  have dp1 := Rp 1 _ rfl
  have dq0 := Rq 0 _ rfl
  have dq1 := Rq 1 _ rfl
  go_wp2_with fail
  refine (eqLinesResult _ _ _ _ _ _ _ (ownSS q1 zL) (ownSS p1 zL) (by omega)).mono ?_; rintro e w41 ⟨rfl, b⟩
  have F42 : Fr w.heap.size w.heap.size w39 w41 := Fr.ofBelow b
  replace A1 := F42.ssb A1 (by omega)
  replace A2 := F42.ssb A2 (by omega)
  replace BB := F42.below BB (by omega) (by omega)
  replace A3 := A3.fr F42 (.inl (by omega))
  replace p1 := F42.own p1 (fun j hj => by have := jp1 j hj; omega)
  replace Rp := F42.rs Rp (by omega)
  replace q1 := F42.own q1 (fun j hj => by have := jq1 j hj; omega)
  replace Rq := F42.rs Rq (by omega)
  have SF42 := F42.size
  clear b F42
  clear dp0 dp1
  clear dq0 dq1
  have dq0 := Rq 0 _ rfl
  have dq1 := Rq 1 _ rfl
  go_wp2_with fail
  refine (markLinesResult w15.heap.size w17.heap.size _ _ L.length _ 1 _ _ (by omega) (by omega) q1 (fun j hj => (jq1 j hj).2)).mono ?_; rintro e w43 ⟨rfl, m1, FM⟩
  clear q1
  clear dq0 dq1
  replace A1 := FM.ssb A1 (by omega)
  replace A2 := FM.ssb A2 (by omega)
  replace BB := FM.below BB (by omega) (by omega)
  replace A3 := A3.fr FM (.inl (by omega))
  replace p1 := FM.own p1 (fun j hj => by have := jp1 j hj; omega)
  replace Rp := FM.rs Rp (by omega)
  replace Rq := FM.rs Rq (by omega)
  have SFM := FM.size
  clear FM
  obtain ⟨M, hM⟩ : ∃ M : Int, ((1 + L.length : Nat) : Int) = M := ⟨_, rfl⟩
  have hM0 : ¬ M < 0 := by omega
  have hMM : (M != M) = false := by simp
  rw [hM]
  have dq0 := Rq 0 _ rfl
  have dq1 := Rq 1 _ rfl
  go_wp2_with fail
  refine (heldLinesResult _ _ L.length _ 1 _ (by omega) (by omega) (ssMarks m1 (by omega))).mono ?_; rintro e w44 ⟨rfl, b⟩
  rw [hM]
  clear dq0 dq1
  have F45 : Fr w.heap.size w.heap.size w43 w44 := Fr.ofBelow b
  replace A1 := F45.ssb A1 (by omega)
  replace A2 := F45.ssb A2 (by omega)
  replace BB := F45.below BB (by omega) (by omega)
  replace A3 := A3.fr F45 (.inl (by omega))
  replace p1 := F45.own p1 (fun j hj => by have := jp1 j hj; omega)
  replace Rp := F45.rs Rp (by omega)
  replace Rq := F45.rs Rq (by omega)
  replace m1 := F45.own m1 (fun j hj => by have := jq1 j hj; omega)
  have SF45 := F45.size
  clear b F45
  go_wp2_with fail
  refine (toStringS' _ _ _ _ (A1.toSS (by omega)) hxs).mono ?_; rintro e w46 ⟨rfl, x, b, zw46⟩
  have F47 : Fr w.heap.size w.heap.size w44 w46 := Fr.ofBelow b
  replace A1 := F47.ssb A1 (by omega)
  replace A2 := F47.ssb A2 (by omega)
  replace BB := F47.below BB (by omega) (by omega)
  replace A3 := A3.fr F47 (.inl (by omega))
  replace p1 := F47.own p1 (fun j hj => by have := jp1 j hj; omega)
  replace Rp := F47.rs Rp (by omega)
  replace Rq := F47.rs Rq (by omega)
  replace m1 := F47.own m1 (fun j hj => by have := jq1 j hj; omega)
  have SF47 := F47.size
  clear b F47
  go_wp2_with fail
  refine (toStringS' _ _ _ _ (A2.toSS (by omega)) hys).mono ?_; rintro e w48 ⟨rfl, y, b, zw48⟩
  have F49 : Fr w.heap.size w.heap.size w46 w48 := Fr.ofBelow b
  replace A1 := F49.ssb A1 (by omega)
  replace A2 := F49.ssb A2 (by omega)
  replace BB := F49.below BB (by omega) (by omega)
  replace A3 := A3.fr F49 (.inl (by omega))
  replace p1 := F49.own p1 (fun j hj => by have := jp1 j hj; omega)
  replace Rp := F49.rs Rp (by omega)
  replace Rq := F49.rs Rq (by omega)
  replace m1 := F49.own m1 (fun j hj => by have := jq1 j hj; omega)
  replace x := x.below b
  have SF49 := F49.size
  clear b F49
  go_wp2_with fail
  refine (toChangeS _ _ _ _ _ A3 hls).mono ?_; rintro e w50 ⟨rfl, z, b⟩
  have jz : ∀ j, (Value.slice (some ⟨w48.heap.size, 0, none⟩) l.length l.length).ownBlock = some j → w48.heap.size ≤ j ∧ j < w50.heap.size := fun j hj => z.lt j hj
  have zw50 := (z.lt w48.heap.size rfl).2
  have F51 : Fr w.heap.size w.heap.size w48 w50 := Fr.ofBelow b
  replace A1 := F51.ssb A1 (by omega)
  replace A2 := F51.ssb A2 (by omega)
  replace BB := F51.below BB (by omega) (by omega)
  replace A3 := A3.fr F51 (.inl (by omega))
  replace p1 := F51.own p1 (fun j hj => by have := jp1 j hj; omega)
  replace Rp := F51.rs Rp (by omega)
  replace Rq := F51.rs Rq (by omega)
  replace m1 := F51.own m1 (fun j hj => by have := jq1 j hj; omega)
  replace x := x.below b
  replace y := y.below b
  have SF51 := F51.size
  clear b F51
  go_wp2_with fail
  refine (hI _ _ _ _ _ x y (cbOf z)).mono ?_; rintro e w52 ⟨v, rfl, hr, br⟩
  obtain ⟨ra, rc, rfl⟩ := shapeS hr
  have r1 := hr
  have jr1 : ∀ j, (Value.slice ra L.length rc).ownBlock = some j → w50.heap.size ≤ j ∧ j < w52.heap.size := fun j hj => r1.lt j hj
  clear hr
  have F53 : Fr w.heap.size w.heap.size w50 w52 := Fr.ofBelow br
  replace A1 := F53.ssb A1 (by omega)
  replace A2 := F53.ssb A2 (by omega)
  replace BB := F53.below BB (by omega) (by omega)
  replace A3 := A3.fr F53 (.inl (by omega))
  replace p1 := F53.own p1 (fun j hj => by have := jp1 j hj; omega)
  replace Rp := F53.rs Rp (by omega)
  replace Rq := F53.rs Rq (by omega)
  replace m1 := F53.own m1 (fun j hj => by have := jq1 j hj; omega)
  replace x := x.below br
  replace y := y.below br
  replace z := F53.own z (fun j hj => by have := jz j hj; omega)
  have SF53 := F53.size
  clear F53 br
  clear x y
  clear z
  have d0 := fun o => (Fr.ofAlloc (lo := 0) (hi := 0) w52 o).cell (Rp 0 _ rfl) (.inr (Nat.zero_le _))
  have d1 := fun o => (Fr.ofAlloc (lo := 0) (hi := 0) w52 o).cell (Rp 1 _ rfl) (.inr (Nat.zero_le _))
  go_wp2_with fail
  obtain ⟨W54, hW54⟩ : ∃ W, w52.alloc (.cells #[.int .i64 r, .slice ra L.length rc] 39) = W := ⟨_, rfl⟩
  have Rr : Rs W54 w52.heap.size [.int .i64 r, .slice ra L.length rc] := by rw [← hW54]; exact Rs.new _ _ _
  have F55 : Fr w.heap.size w.heap.size w52 W54 := by rw [← hW54]; exact Fr.ofAlloc _ _
  have zW54 : w52.heap.size < W54.heap.size := by rw [← hW54]; simp
  rw [hW54]
  clear hW54
  clear d0 d1
  replace A1 := F55.ssb A1 (by omega)
  replace A2 := F55.ssb A2 (by omega)
  replace BB := F55.below BB (by omega) (by omega)
  replace A3 := A3.fr F55 (.inl (by omega))
  replace p1 := F55.own p1 (fun j hj => by have := jp1 j hj; omega)
  replace Rp := F55.rs Rp (by omega)
  replace Rq := F55.rs Rq (by omega)
  replace m1 := F55.own m1 (fun j hj => by have := jq1 j hj; omega)
  replace r1 := F55.own r1 (fun j hj => by have := jr1 j hj; omega)
  have SF55 := F55.size
  clear F55
  refine (eqLinesResult _ _ _ _ _ _ _ (ownSS r1 zL) (ownSS p1 zL) (by omega)).mono ?_; rintro e w56 ⟨rfl, b⟩
  have F57 : Fr w.heap.size w.heap.size W54 w56 := Fr.ofBelow b
  replace A1 := F57.ssb A1 (by omega)
  replace A2 := F57.ssb A2 (by omega)
  replace BB := F57.below BB (by omega) (by omega)
  replace A3 := A3.fr F57 (.inl (by omega))
  replace p1 := F57.own p1 (fun j hj => by have := jp1 j hj; omega)
  replace Rp := F57.rs Rp (by omega)
  replace Rq := F57.rs Rq (by omega)
  replace m1 := F57.own m1 (fun j hj => by have := jq1 j hj; omega)
  replace r1 := F57.own r1 (fun j hj => by have := jr1 j hj; omega)
  replace Rr := F57.rs Rr (by omega)
  have SF57 := F57.size
  clear b F57
  have dq0 := Rq 0 _ rfl
  have dq1 := Rq 1 _ rfl
  go_wp2_with fail
  refine (heldLinesResult _ _ L.length _ 1 _ (by omega) (by omega) (ssMarks m1 (by omega))).mono ?_; rintro e w58 ⟨rfl, b⟩
  rw [hM]
  clear dq0 dq1
  have F59 : Fr w.heap.size w.heap.size w56 w58 := Fr.ofBelow b
  replace A1 := F59.ssb A1 (by omega)
  replace A2 := F59.ssb A2 (by omega)
  replace BB := F59.below BB (by omega) (by omega)
  replace A3 := A3.fr F59 (.inl (by omega))
  replace p1 := F59.own p1 (fun j hj => by have := jp1 j hj; omega)
  replace Rp := F59.rs Rp (by omega)
  replace Rq := F59.rs Rq (by omega)
  replace m1 := F59.own m1 (fun j hj => by have := jq1 j hj; omega)
  replace r1 := F59.own r1 (fun j hj => by have := jr1 j hj; omega)
  replace Rr := F59.rs Rr (by omega)
  have SF59 := F59.size
  clear b F59
  go_wp2_with fail
  go_ret
  exact ⟨rfl, BB⟩

set_option linter.unusedVariables false
theorem laidOut : laidOutB Try.prog = true := by kernel_rfl
theorem own : ownKnob Try.prog.godebug = none := by kernel_rfl
set_option maxRecDepth 100000 in
theorem lifted (os : Os) (started : os.Started) (H : Type) (enc : TypeId × Value → H) :
    ReturnsInHanded {} Try.checked os 5 .any (Rows.fnExactWeaveChangesSpec.pre6 enc Try.prog Try.f5 Rows.fnExactWeaveChangesRow.domain false) (Rows.fnExactWeaveChangesSpec.post enc Try.prog Try.f5 false true false false) := by
  refine returnsInHanded_of_change (C := Try.checked) own started (by kernel_rfl) Try.func5
    (ChangeSpec.witness6 (enc := enc) (C := Try.checked) false ⟨#[], #[.slice none 0 0, .slice none 0 0, .slice none 0 0], []⟩ 8 (by kernel_rfl) (by kernel_rfl) (by kernel_rfl) (by kernel_rfl)) ?_
  intro W base args ds gs before hval0 hW hcnd _
  have hval : ∀ (j : Nat) t v, Try.f5.params[j]? = some t → args[j]? = some v → Value.okWide Try.prog W .any base t v := hval0
  have hW' := hW
  obtain ⟨p, q, hA0, hV, rfl, hfz, hnd⟩ := hW
  have hA : DataW.TrodAll enc Try.prog W 0 (fun _ => true) true Try.f5.params.toList args.toList ds p := hA0
  rw [Try.params5] at hA hval
  obtain ⟨v0, vs0, d0, ds0, p0, q0, hargs, rfl, rfl, h0, r0⟩ := trodAll_cons hA
  obtain ⟨v1, vs1, d1, ds1, p1, q1, rfl, rfl, rfl, h1, r1⟩ := trodAll_cons r0
  obtain ⟨v2, vs2, d2, ds2, p2, q2, rfl, rfl, rfl, h2, r2⟩ := trodAll_cons r1
  obtain ⟨rfl, rfl, rfl⟩ := trodAll_nil r2
  obtain rfl : args = #[v0, v1, v2] := by cases args; simp_all
  obtain ⟨rfl, rfl⟩ := trodVars_none hV
  obtain ⟨a0, len0, cap0, rfl⟩ := okWide_slice Try.underlying22 (hval 0 22 v0 rfl rfl)
  have k0 := h0
  have lt0 : ∀ x ∈ p0, x.block < W.heap.size := by obtain ⟨m, hm⟩ := k0; exact DataW.trod_lt m _ _ _ hm
  obtain ⟨ss0, rfl, w0, n0⟩ := openSS h0 lt0
  obtain ⟨a1, len1, cap1, rfl⟩ := okWide_slice Try.underlying22 (hval 1 22 v1 rfl rfl)
  have k1 := h1
  have lt1 : ∀ x ∈ p1, x.block < W.heap.size := by obtain ⟨m, hm⟩ := k1; exact DataW.trod_lt m _ _ _ hm
  obtain ⟨ss1, rfl, w1, n1⟩ := openSS h1 lt1
  obtain ⟨a2, len2, cap2, rfl⟩ := okWide_slice Try.underlying36 (hval 2 36 v2 rfl rfl)
  have k2 := h2
  have lt2 : ∀ x ∈ p2, x.block < W.heap.size := by obtain ⟨m, hm⟩ := k2; exact DataW.trod_lt m _ _ _ hm
  obtain ⟨ss2, rfl, w2, r2, n2⟩ := openCB h2
  clear hA0 hval0
  refine (walk a0 a1 a2 cap0 cap1 cap2 ss0 ss1 ss2 W w0 w1 w2 r2 n0 n1 n2).mono fun e W' ⟨he, bel⟩ => ?_
  subst he
  exact ⟨_, rfl, _, _, _, [], _, [], hW', trodAll_mk1 (shut_bool Try.underlying4 _), (trodAll_cons_mk (Below.trod laidOut (by kernel_rfl) (of_decide_eq_true (by kernel_rfl)) k0 bel lt0) (trodAll_cons_mk (Below.trod laidOut (by kernel_rfl) (of_decide_eq_true (by kernel_rfl)) k1 bel lt1) (trodAll_cons_mk (Below.trod laidOut (by kernel_rfl) (of_decide_eq_true (by kernel_rfl)) k2 bel lt2) trodAll_mk0))), rfl, bel.frame _, fun h => by cases h⟩

theorem over : Rows.fnExactWeaveChangesRow.holds Try.pinned (OpenSpec.ofChange Rows.fnExactWeaveChangesSpec) :=
  OpenClaim.holds_of_wide 5 Try.f5 rfl rfl rfl rfl rfl rfl rfl ⟨rfl, rfl, rfl, rfl, rfl⟩ rfl rfl rfl rfl rfl (by kernel_rfl) Try.func5 (by kernel_rfl)
    (of_decide_eq_true (by kernel_rfl)) (by unfold Func.isWrapper; first | (rw [if_pos (by decide +kernel)]; kernel_rfl) | (rw [if_neg (by decide +kernel)]; exact ⟨rfl, rfl⟩))
    (fun os started H enc _ => lifted os started H enc)

theorem proved : Rows.FnExactWeaveChangesSaid := over
end Go.Proofs.Ytidjcjeiigjmaah.WvLaw
namespace Go.Proofs.Ytidjcjeiigjmaah
theorem fnExactWeaveChanges_proved : Rows.FnExactWeaveChangesSaid := WvLaw.proved
end Go.Proofs.Ytidjcjeiigjmaah
