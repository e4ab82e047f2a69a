/- Proved: at every code FnRejects returns true (a patch that is applied and undone is what was there). No condition: FnRejectsSaid itself. -/
import Derived.Test.YtepbkaidlffaiabRows
import Derived.Test.YtepbkaidlffaiabLemQ
import Derived.Test.YtepbkaidlffaiabStrsQ
import Derived.Test.YtepbkaidlffaiabMarksQ
import Derived.Test.YtepbkaidlffaiabLFLemQ
import Derived.Test.YtepbkaidlffaiabLFQ
import Derived.Test.YtepbkaidlffaiabComQ
import Derived.Test.YtepbkaidlffaiabDTabQ
import Derived.Test.YtepbkaidlffaiabOwnQ
import Derived.Test.YtepbkaidlffaiabFrQ
import Derived.Test.YtepbkaidlffaiabInQ
import Derived.Test.YtepbkaidlffaiabAskedQ
import Derived.Test.YtepbkaidlffaiabHkTQ
import Derived.Test.YtepbkaidlffaiabHkLQ
import Derived.Test.YtepbkaidlffaiabHfCQ
import Derived.Test.YtepbkaidlffaiabHfIQ
import Derived.Test.YtepbkaidlffaiabHnLQ
import Derived.Test.YtepbkaidlffaiabHrRQ
import Derived.Test.YtepbkaidlffaiabRvLQ
import Derived.Test.YtepbkaidlffaiabRvIQ
import Derived.Test.YtepbkaidlffaiabApCQ
import Derived.Test.YtepbkaidlffaiabApNQ
import Derived.Test.YtepbkaidlffaiabHoMQ
import Derived.Test.YtepbkaidlffaiabHoFQ
import Derived.Test.YtepbkaidlffaiabSameCQ
import Derived.Test.YtepbkaidlffaiabGdMQ
import Derived.Test.YtepbkaidlffaiabDaLQ
import Derived.Test.YtepbkaidlffaiabApGQ
import Derived.Test.YtepbkaidlffaiabHoGQ
import Derived.Test.YtepbkaidlffaiabDrawQ
import Derived.Test.YtepbkaidlffaiabDraw11Q
import Derived.WalkKit
import Derived.ProofKit
import Derived.OpenShut
import Derived.Below
import Derived.Carry
import Derived.Deep.QuietTactic
import Derived.BigQuiet
import Derived.Deep.RegionWith
import Derived.Deep.CutRange
import Derived.Deep.RegionHeld
namespace Go.Proofs.Ytepbkaidlffaiab.RjF
open Go.ChangeShapes Go.WideShapes Go.ChangeAt Go.RowKit

theorem lwBig (a : Option Addr) (n cap : Nat) (w : World) : Calls Try.prog 9 #[.slice a n cap] w fun e w' => e = .returned (.bool (decide ((1048576 : Int) < (n : Int)))) ∧ w' = w := by
  go_enter Try.func9, Try.ntmps9
  go_wp2
  go_ret
  exact ⟨rfl, rfl⟩
theorem zc {w w' : World} {b o : Nat} {v : Value} (h : Below w.heap.size w w') (hc : w.cell? ⟨b, o, none⟩ = some v) : w'.cell? ⟨b, o, none⟩ = some v := (Fr.ofBelow (lo := 0) (hi := 0) h).cell hc (.inr (Nat.zero_le _))
set_option maxHeartbeats 800000 in
theorem drawApplyHunks (a : Option Addr) (n cap : Nat) (w : World) (h : Bts w a n) (hn : n ≤ 2097152) :
    Calls Try.prog 10 #[.slice a n cap] w fun e w' => ∃ (g1 c1 : Nat) (xs : List ByteArray) (a3 : Option Addr) (c3 : Nat) (l : List Hk), e = .returned (.tuple #[.slice (some ⟨g1, 0, none⟩) xs.length c1, .slice a3 l.length c3]) ∧ SS w' (some ⟨g1, 0, none⟩) xs ∧ HB w'.heap.size w' a3 l ∧ xs.length ≤ c1 ∧ xs.length ≤ 1000 ∧ tot xs ≤ 9000 ∧ Fine l ∧ Below w.heap.size w w' := by
  have hH : HunksC := fun cx c0 c5 a1 a2 c1 c2 xs ys w h1 h2 k1 k2 n1 n2 z1 z2 => l3Hunks cx c0 c5 a1 a2 c1 c2 xs ys w h1 h2 k1 k2 n1 n2 z1 z2
  go_enter Try.func10, Try.ntmps10
  go_wp2_with fail
  refine (l1Source a n cap _ h (by omega)).mono ?_; rintro e w1 ⟨rfl, hs1, hb1⟩
  go_wp2_with fail
  refine (l3Draw hH _ _ a n cap 0 _ hs1 (by omega)).mono ?_; rintro e w2 ⟨g1, c1, xs, a3, c3, l, rfl, S1, H3, k1, l1, m1, f1, gr⟩
  have t1 := m1.totN
  have HB : Hid (Below w.heap.size w w2) := hb1.grown gr hb1.size (fun j hj => by cases hj; exact Nat.le_refl _)
  clear hb1 gr hs1 hH
  go_wp2_with fail
  refine bodyPost_ret (v := .tuple #[.slice (some ⟨g1, 0, none⟩) xs.length c1, .slice a3 l.length c3]) (by simp [results, Try.results10, go_sem]) rfl ?_
  exact ⟨g1, c1, xs, a3, c3, l, rfl, S1, H3, k1, l1, by omega, f1, HB.out⟩
theorem ownNil {w : World} {base : Nat} {e : TypeId} {s : Nat} {a : Option Addr} {n c : Nat} {xs : List Value} (h : w.ownsRow base e s (.slice a n c) n xs) : (a = none → c = 0) ∧ n ≤ c := by
  rcases h.2 with ⟨h', h0⟩ | ⟨g, cc, cur, h', _, _, hn, _⟩
  · simp only [Value.slice.injEq] at h'; exact ⟨fun _ => h'.2.2, by omega⟩
  · simp only [Value.slice.injEq] at h'
    obtain ⟨rfl, _, rfl⟩ := h'
    exact ⟨fun e => (by cases e), hn⟩
theorem newZ (w : World) (o : Obj) : w.heap.size < (w.alloc o).heap.size := by simp
/-- What comes of applying back: an answer in a variable, and its lines. -/
def RB (W : World) (xs : List ByteArray) (s : Value) (wx : World) : Prop := ∃ (p : Nat) (za : Option Addr) (zc : Nat), s = .pointer (some ⟨p, 0, none⟩) ∧ wx.cell? ⟨p, 0, none⟩ = some (.int .i64 0) ∧ wx.cell? ⟨p, 1, none⟩ = some (.slice za xs.length zc) ∧ SS wx za xs ∧ Below W.heap.size W wx
theorem RB.new {W w5 : World} {xs : List ByteArray} {za : Option Addr} {zc : Nat} {t : TypeId} (b : Below W.heap.size W w5) (h : SS w5 za xs) : RB W xs (.pointer (some ⟨w5.heap.size, 0, none⟩)) (w5.alloc (.cells #[.int .i64 0, .slice za xs.length zc] t)) :=
  ⟨w5.heap.size, za, zc, rfl, (Rs.new w5 #[.int .i64 0, .slice za xs.length zc] t) 0 _ rfl, (Rs.new w5 #[.int .i64 0, .slice za xs.length zc] t) 1 _ rfl, h.below (allocBelow _ _), b.alloc b.size _⟩
theorem RB.sets {W w5 : World} {xs : List ByteArray} {za : Option Addr} {zc p : Nat} {u v : Value} (b : Below W.heap.size W w5) (h : SS w5 za xs) (hp : W.heap.size ≤ p) (hn : ∀ g, za = some g → g.block ≠ p) (c0 : w5.cell? ⟨p, 0, none⟩ = some u) (c1 : w5.cell? ⟨p, 1, none⟩ = some v) :
    RB W xs (.pointer (some ⟨p, 0, none⟩)) ((w5.setCell ⟨p, 0, none⟩ (.int .i64 0)).setCell ⟨p, 1, none⟩ (.slice za xs.length zc)) := by
  refine ⟨p, za, zc, rfl, ?_, ?_, ?_, (b.setCell (p := ⟨p, 0, none⟩) hp _).setCell (p := ⟨p, 1, none⟩) hp _⟩
  · rw [World.cell?_setCell_other _ _ _ _ (by intro c; simp only [Addr.mk.injEq] at c; omega), World.cell?_setCell_same _ _ _ c0]
  · exact World.cell?_setCell_same _ _ _ (u := v) (by rw [World.cell?_setCell_other _ _ _ _ (by intro c; simp only [Addr.mk.injEq] at c; omega)]; exact c1)
  · refine ⟨h.1, fun k hk => ?_⟩
    obtain ⟨b', off, e, hb, hc⟩ := h.2 k hk
    have hne := hn _ e
    refine ⟨b', off, e, by simpa using hb, ?_⟩
    rw [World.cell?_setCell_other _ _ _ _ (by intro c; simp only [Addr.mk.injEq] at c; exact hne c.1.symm), World.cell?_setCell_other _ _ _ _ (by intro c; simp only [Addr.mk.injEq] at c; exact hne c.1.symm)]
    exact hc
set_option maxRecDepth 20000 in
set_option maxHeartbeats 4000000 in
theorem walk (a : Option Addr) (n cap : Nat) (w : World) (h : Bts w a n) (_hm : n ≤ 9223372036854775807) :
    Calls Try.prog 3 #[.slice a n cap] w fun e w' => e = .returned (.bool true) ∧ Below w.heap.size w w' := by
  by_cases hbig : (1048576 : Int) < (n : Int)
  · go_enter Try.func3, Try.ntmps3
    go_wp2_with (go_at_call 9; refine (lwBig _ _ _ _).mono ?_; rintro e w' ⟨rfl, rfl⟩)
    go_ret
    exact ⟨rfl, Below.refl _ _⟩
  go_enter Try.func3, Try.ntmps3
  go_wp2_with fail
  refine (lwBig _ _ _ _).mono ?_; rintro e w ⟨rfl, rfl⟩
  go_wp2_with fail
  refine (drawApplyHunks a n cap _ h (by omega)).mono ?_; rintro e w1 ⟨g1, c1, xs, a3, c3, l, rfl, Sx, H1, kx, lx, tx, fl, b1⟩
  clear h
  have htk := fl.tk
  have hln := fl.len
  have hA := fun w p q => implApplyHunks (some ⟨g1, 0, none⟩) a3 ⟨_, rfl⟩ c1 c3 xs l w p q kx (by omega) (by omega) fl.short (by omega)
  go_wp2_with fail
  refine (hA _ Sx H1).mono ?_; rintro e w2 ⟨v2, rfl, o2, b2⟩
  obtain ⟨ra, rc, er⟩ := shapeS o2
  subst er
  obtain ⟨hnil, hcap⟩ := ownNil o2
  have c3' : Below w1.heap.size w1 w2 := b2
  clear hA
  by_cases h0 : apR xs l = 0
  · obtain ⟨k1, k2, k3, k4⟩ : lf xs = 0 ∧ hf l = 0 ∧ apOk xs l = true ∧ lf (apAll xs l) = 0 := by
      unfold apR at h0
      split at h0
      · split at h0
        · split at h0
          · exact ⟨by assumption, by assumption, by assumption, h0⟩
          · cases h0
        · rename_i hn; exact absurd h0 hn
      · rename_i hn; exact absurd h0 hn
    have e4 : apL xs l = apAll xs l := by unfold apL; rw [if_pos ⟨k1, k2, k3, k4⟩]
    obtain ⟨p1, p2, p3⟩ := rj_all k2 k3
    have fr := fl.rev k2
    have ht := fr.tk
    have hrn := fr.len
    rw [h0, e4]
    rw [e4] at o2 hcap
    have lR := lf_zero' k4
    have zR : ∀ k, k < (apAll xs l).length → ((apAll xs l).getD k ByteArray.empty).size ≤ 9223372036854775807 := fun k hk => by
      rw [getD_at _ k hk]
      have := tot_of_mem (List.getElem_mem hk)
      omega
    obtain ⟨R, hR⟩ : ∃ R, apAll xs l = R := ⟨_, rfl⟩
    rw [hR] at o2 k4 p2 p3 lR zR hcap ⊢
    have hr3 : apR R (l.map revH) = 0 := by unfold apR; rw [if_pos k4, if_pos p1, if_pos p2, p3]; exact k1
    have hr4 : apL R (l.map revH) = xs := by unfold apL; rw [if_pos ⟨k4, p1, p2, by rw [p3]; exact k1⟩, p3]
    have hV := fun w p => implReverseHunks a3 c3 l w p (by omega) fl.short fl.size
    have hA2 := fun (a4 : Option Addr) (c4 : Nat) w p q => implApplyHunksG ra a4 rc c4 hnil R (l.map revH) w p q hcap (by omega) (by omega) fr.short (by omega)
    have hF := fun w p => implLinesFault ra rc R w p (by omega)
    have hL := fun (va : Option Addr) (vc : Nat) w p q => Same.implSameLines va (some ⟨g1, 0, none⟩) vc c1 xs xs w p q (by omega) (by omega)
    rw [eqB_self] at hL
    rw [k2, rvL_ok k2] at hV
    rw [hr3, hr4] at hA2
    rw [k4] at hF
    have ft2 := fr.fits
    have zX := Sx.1
    obtain ⟨M, hMe⟩ : ∃ M, l.map revH = M := ⟨_, rfl⟩
    rw [hMe] at hV hA2 ft2
    clear p1 p2 p3 hr3 hr4 k1 k2 k3 k4 e4 hMe hR h0 fl fr htk hln ht hrn lx tx lR
    obtain ⟨W3, hW3⟩ : ∃ W, w2.alloc (.cells #[.int .i64 0, .slice ra R.length rc] 29) = W := ⟨_, rfl⟩
    have Rr : Rs W3 w2.heap.size [.int .i64 0, .slice ra R.length rc] := by rw [← hW3]; exact Rs.new _ _ _
    have d3 : Below w2.heap.size w2 W3 := by rw [← hW3]; exact allocBelow _ _
    have c3 : Below w1.heap.size w1 W3 := by rw [← hW3]; exact b2.alloc b2.size _
    have SR := (ownSS o2 zR).below d3
    have SX := Sx.below c3
    have H3 : HB W3.heap.size W3 a3 l := (H1.below c3).mono c3.size
    have B3 := b1.trans (c3.mono b1.size)
    obtain ⟨p, hp⟩ : ∃ p, w2.heap.size = p := ⟨_, rfl⟩
    have r0 := Rr 0 _ rfl
    have r1 := Rr 1 _ rfl
    rw [hp] at r0 r1
    have hpW : p < W3.heap.size := by rw [← hp, ← hW3]; simp
    clear b1 b2 c3 c3' d3 o2 Sx H1 Rr zR
    go_upto_region 7 with fail
    go_cut [6] from 33 to 38 (fun s wx => RB W3 xs s wx)
    case first =>
      have HBd : HB W3.drew.heap.size W3.drew a3 l := H3
      have HBo : ∀ o, HB (W3.alloc o).drew.heap.size (W3.alloc o).drew a3 l := fun o => (H3.below (below_drew (allocBelow W3 o))).mono (by show W3.heap.size ≤ (W3.alloc o).heap.size; simp)
      have flf : ∀ v1 w, (Instr.field 32 (.agg #[.int .i64 0, .int .i64 0, v1]) 2).run Try.prog w = .ok v1 w := fun v1 w => by kernel_rfl
      clear hF hL SX B3 hbig hW3 hp H3 kx hcap
      go_region_held (fun w' => w'.cell? ⟨p, 1, none⟩ = some (.slice ra R.length rc)) (first | with_reducible exact r1b | with_reducible exact r1a | with_reducible exact r1 | exact r1b | exact r1a | exact r1 | exact zc (allocBelow _ _) r1b | exact zc (allocBelow _ _) r1a | exact zc (allocBelow _ _) r1 | (with_reducible refine twoKeep r1b ?_ <;> omega) | (go_keep; done))
        (first | (go_at_call 11; have gd := H4; clear gd; refine (hA2 _ _ _ S4 H4).mono ?_; rintro e w5 ⟨v5, rfl, o5, b5⟩; have B5 : Below W3.heap.size W3 w5 := B4.trans (b5.mono B4.size); (try have yR5 := yR.below z4 b5); (try have y0 := yR5.at_ 0 _ rfl); (try have y1 := yR5.at_ 1 _ rfl); (try have u0 := yR5.fz 0); (try have u1 := yR5.fz 1); obtain ⟨za, zc', ez⟩ := shapeS o5; subst ez; have r1b := zc B5 r1; have SS5 := ownSS o5 zX; have hn5 : ∀ g, za = some g → w4.heap.size ≤ g.block := (fun g e => (o5.lt g.block (by rw [e]; rfl)).1); have z5 := B4.size) | (go_at_call 11; have gd := H4; clear gd; (refine (hA2 _ _ _ (S4o _) (H4o _)).mono ?_; rintro e w5 ⟨v5, rfl, o5, b5⟩; have B5 : Below W3.heap.size W3 w5 := (B4.trans ((allocBelow w4 _).mono B4.size)).trans (b5.mono (Nat.le_trans B4.size (allocBelow w4 _).size)); have yR5 := (Rf.new w4 #[.int .i64 0, .slice none 0 0] 29).below (newZ w4 _) b5; have y0 := yR5.at_ 0 _ rfl; have y1 := yR5.at_ 1 _ rfl; have u0 := yR5.fz 0; have u1 := yR5.fz 1; obtain ⟨za, zc', ez⟩ := shapeS o5; subst ez; have r1b := zc B5 r1; have SS5 := ownSS o5 zX; have hn5 : ∀ g, za = some g → w4.heap.size < g.block := (fun g e => Nat.lt_of_lt_of_le (newZ w4 _) (o5.lt g.block (by rw [e]; rfl)).1); have z5 := B4.size)) | (go_at_call 13; (first | (refine (hV _ HBd).mono ?_; rintro e w4 ⟨v4, sl4, rfl, hO4, b4⟩; have B4 : Below W3.heap.size W3 w4 := (below_drew (Below.refl _ _)).trans b4) | (refine (hV _ (HBo _)).mono ?_; rintro e w4 ⟨v4, sl4, rfl, hO4, b4⟩; have yR := (Rf.new W3 #[.int .i64 0, .slice none 0 0] 29).drew.below (newZ W3 _) b4; have B4 := (belNew b4).1; have z4 := (belNew b4).2)); obtain ⟨xa, xc, ex⟩ := shape3 hO4.row; subst ex; have H4 := hO4.read ft2; have r1a := zc B4 r1; have S4 := SR.below B4; have S4o := (fun o => S4.below (allocBelow w4 o)); have H4o := (fun o => (H4.below (allocBelow w4 o)).mono (allocBelow w4 o).size); clear hO4 b4))
      all_goals (go_wp2_with fail; go_meet; first | exact RB.new B5 SS5 | exact RB.sets B5 SS5 (by omega) (fun g e => by have := hn5 g e; omega) y0 y1)
    case rest =>
    obtain ⟨p2, za, zc', rfl, s0, s1, SZ, hB⟩ := hcut
    have r1 := zc hB r1
    have SR4 := SR.below hB
    have SX4 := SX.below hB
    have BE := B3.trans (hB.mono B3.size)
    clear hB SR SX B3 hA2 hV r0
    go_wp2_with fail
    refine (hF _ SR4).mono ?_; rintro e w6 ⟨rfl, rfl⟩
    go_wp2_with fail
    refine (hL _ _ _ SZ SX4).mono ?_; rintro e w7 ⟨rfl, nb, rfl⟩
    have BE := below_drewN' BE nb
    clear SZ SX4 SR4 s0 s1 r1
    go_wp2_with fail
    go_ret
    exact ⟨rfl, BE⟩
  · have hS := fun w p q => specApplyHunks (some ⟨g1, 0, none⟩) a3 ⟨_, rfl⟩ c1 c3 xs l w p q kx (by omega) (by omega) fl.short (by omega)
    have e4 : apL xs l = [] := by
      unfold apL
      rw [if_neg]
      rintro ⟨j1, j2, j3, j4⟩
      refine h0 ?_
      unfold apR
      rw [if_pos j1, if_pos j2, if_pos j3]; exact j4
    have q0 : (apR xs l != 0) = true := by simp [h0]
    obtain ⟨K, hK⟩ : ∃ K, apR xs l = K := ⟨_, rfl⟩
    rw [e4] at o2
    have hS' : ∀ w, SS w (some ⟨g1, 0, none⟩) xs → HB w.heap.size w a3 l → Calls Try.prog 12 #[.slice (some ⟨g1, 0, none⟩) xs.length c1, .slice a3 l.length c3] w fun e w' => (∃ v1, e = .returned (.agg #[.int .i64 K, v1])) ∧ Below w.heap.size w w' := fun w p q => (hS w p q).mono fun e w' ⟨v1, he, _, hb⟩ => ⟨⟨v1, by rw [he, hK]⟩, hb⟩
    rw [hK, e4]
    rw [hK] at q0
    have kk : (K == K) = true := by simp
    have flf : ∀ v1 w, (Instr.field 29 (.agg #[.int .i64 K, v1]) 0).run Try.prog w = .ok (.int .i64 K) w := fun v1 w => by kernel_rfl
    obtain ⟨W3, hW3⟩ : ∃ W, w2.alloc (.cells #[.int .i64 K, .slice ra ([] : List ByteArray).length rc] 29) = W := ⟨_, rfl⟩
    have Rr : Rs W3 w2.heap.size [.int .i64 K, .slice ra ([] : List ByteArray).length rc] := by rw [← hW3]; exact Rs.new _ _ _
    have c3 : Below w1.heap.size w1 W3 := by rw [← hW3]; exact b2.alloc b2.size _
    have SX := Sx.below c3
    have H3 : HB W3.heap.size W3 a3 l := (H1.below c3).mono c3.size
    have B3 := b1.trans (c3.mono b1.size)
    obtain ⟨p, hp⟩ : ∃ p, w2.heap.size = p := ⟨_, rfl⟩
    have r0 := Rr 0 _ rfl
    have r1 := Rr 1 _ rfl
    rw [hp] at r0 r1
    simp only [List.length_nil] at r1 hW3 ⊢
    clear b1 b2 c3 c3' o2 Sx H1 Rr hS h0 hK e4 hcap fl htk hln
    go_upto_region 6 with fail
    go_cut [2] from 20 to 32 (fun s wx => s = .bool true ∧ Below W3.heap.size W3 wx)
    case first =>
      have BD : Below W3.heap.size W3 W3.drew := (Below.refl _ _).drew
      have SxD := SX.below BD
      have HD : HB W3.drew.heap.size W3.drew a3 l := H3
      clear lx tx kx SX H3 B3 hbig hW3 hp hnil
      go_region_held (fun w' => w'.cell? ⟨p, 0, none⟩ = some (.int .i64 K) ∧ w'.cell? ⟨p, 1, none⟩ = some (.slice ra 0 rc)) (first | with_reducible exact ⟨r0a, r1a⟩ | with_reducible exact ⟨r0, r1⟩ | exact ⟨r0a, r1a⟩ | exact ⟨r0, r1⟩)
        ((go_at_call 12; refine (hS' _ SxD HD).mono ?_; rintro e wa ⟨⟨v1, rfl⟩, ba⟩; have r0a := zc ba r0; have r1a := zc ba r1; have Bt1 := below_step BD BD.size ba))
      all_goals (go_wp2_with fail; go_meet; exact ⟨rfl, Bt1⟩)
    case rest =>
    obtain ⟨rfl, b⟩ := hcut
    have BE := B3.trans (b.mono B3.size)
    clear b
    go_wp2_with fail
    go_ret
    exact ⟨rfl, BE⟩

set_option linter.unusedVariables false
theorem laidOut : laidOutB Try.prog = true := by kernel_rfl
theorem own : ownKnob Try.prog.godebug = none := by kernel_rfl
set_option maxRecDepth 100000 in
theorem lifted (os : Os) (started : os.Started) (H : Type) (enc : TypeId × Value → H) :
    ReturnsInHanded {} Try.checked os 3 .any (Rows.fnRejectsSpec.pre6 enc Try.prog Try.f3 Rows.fnRejectsRow.domain false) (Rows.fnRejectsSpec.post enc Try.prog Try.f3 false true false false) := by
  refine returnsInHanded_of_change (C := Try.checked) own started (by kernel_rfl) Try.func3
    (ChangeSpec.witness6 (enc := enc) (C := Try.checked) false ⟨#[], #[.slice none 0 0], []⟩ 8 (by kernel_rfl) (by kernel_rfl) (by kernel_rfl) (by kernel_rfl)) ?_
  intro W base args ds gs before hval0 hW hcnd _
  have hval : ∀ (j : Nat) t v, Try.f3.params[j]? = some t → args[j]? = some v → Value.okWide Try.prog W .any base t v := hval0
  have hW' := hW
  obtain ⟨p, q, hA0, hV, rfl, hfz, hnd⟩ := hW
  have hA : DataW.TrodAll enc Try.prog W 0 (fun _ => true) true Try.f3.params.toList args.toList ds p := hA0
  rw [Try.params3] at hA hval
  obtain ⟨v0, vs0, d0, ds0, p0, q0, hargs, rfl, rfl, h0, r0⟩ := trodAll_cons hA
  obtain ⟨rfl, rfl, rfl⟩ := trodAll_nil r0
  obtain rfl : args = #[v0] := by cases args; simp_all
  obtain ⟨rfl, rfl⟩ := trodVars_none hV
  obtain ⟨a0, len0, cap0, rfl⟩ := okWide_slice Try.underlying22 (hval 0 22 v0 rfl rfl)
  have k0 := h0
  have lt0 : ∀ x ∈ p0, x.block < W.heap.size := by obtain ⟨m, hm⟩ := k0; exact DataW.trod_lt m _ _ _ hm
  obtain ⟨w0, n0⟩ := openBts h0 lt0
  clear hA0 hval0
  refine (walk a0 len0 cap0 W w0 n0).mono fun e W' ⟨he, bel⟩ => ?_
  subst he
  exact ⟨_, rfl, _, _, _, [], _, [], hW', trodAll_mk1 (shut_bool Try.underlying4 _), (trodAll_cons_mk (Below.trod laidOut (by kernel_rfl) (of_decide_eq_true (by kernel_rfl)) k0 bel lt0) trodAll_mk0), rfl, bel.frame _, fun h => by cases h⟩

theorem over : Rows.fnRejectsRow.holds Try.pinned (OpenSpec.ofChange Rows.fnRejectsSpec) :=
  OpenClaim.holds_of_wide 3 Try.f3 rfl rfl rfl rfl rfl rfl rfl ⟨rfl, rfl, rfl, rfl, rfl⟩ rfl rfl rfl rfl rfl (by kernel_rfl) Try.func3 (by kernel_rfl)
    (of_decide_eq_true (by kernel_rfl)) (by unfold Func.isWrapper; first | (rw [if_pos (by decide +kernel)]; kernel_rfl) | (rw [if_neg (by decide +kernel)]; exact ⟨rfl, rfl⟩))
    (fun os started H enc _ => lifted os started H enc)

theorem proved : Rows.FnRejectsSaid := over
end Go.Proofs.Ytepbkaidlffaiab.RjF
namespace Go.Proofs.Ytepbkaidlffaiab
theorem fnRejects_proved : Rows.FnRejectsSaid := RjF.proved
end Go.Proofs.Ytepbkaidlffaiab
