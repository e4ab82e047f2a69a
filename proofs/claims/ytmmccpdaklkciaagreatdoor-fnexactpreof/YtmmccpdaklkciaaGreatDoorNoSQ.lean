/- NormalText of the specification. No statement is proved here. -/
import Derived.Test.YtmmccpdaklkciaaGreatDoorRows
import Derived.Test.YtmmccpdaklkciaaGreatDoorLemQ
import Derived.Test.YtmmccpdaklkciaaGreatDoorLFLemQ
import Derived.Test.YtmmccpdaklkciaaGreatDoorDTabQ
import Derived.Test.YtmmccpdaklkciaaGreatDoorIterQ
import Derived.Test.YtmmccpdaklkciaaGreatDoorFpSQ
import Derived.Test.YtmmccpdaklkciaaGreatDoorCkLQ
import Derived.Test.YtmmccpdaklkciaaGreatDoorSameCQ
import Derived.Test.YtmmccpdaklkciaaGreatDoorCkBQ
import Derived.Test.YtmmccpdaklkciaaGreatDoorKpJQ
import Derived.Test.YtmmccpdaklkciaaGreatDoorMxIQ
import Derived.Test.YtmmccpdaklkciaaGreatDoorHkTQ
import Derived.Test.YtmmccpdaklkciaaGreatDoorTvMQ
import Derived.WalkKit
import Derived.ProofKit
import Derived.Below
import Derived.WalkSpells
import Derived.Laws.Concat
import Derived.Laws.Cover1
set_option linter.unusedVariables false
namespace Go.Proofs.YtmmccpdaklkciaaGreatDoor.No
open Go.RowKit
set_option maxHeartbeats 1000000 in
theorem l13Number (n : Nat) (w : World) (h : n < 10000) :
    Calls Tryz.prog 182 #[.int .i64 (n : Int)] w fun e w' => e = .returned (.string (szN n)) ∧ Below w.heap.size w w' := by
  have hD := l3Digits n n (Nat.le_refl _) (by omega) w
  have HS : Hid (szN n = ⟨#[32]⟩ ++ decB n) := rfl
  have hsz : (decB n).size ≤ 1000000 := by have := decB_size h; omega
  generalize decB n = D at hD HS hsz
  go_enter Tryz.func182, Tryz.ntmps182
  go_wp2_with fail
  refine hD.mono ?_; rintro e w1 ⟨rfl, b1⟩
  go_wp2
  go_ret
  exact ⟨by rw [HS.out]; rfl, b1⟩
theorem ret_sb {s t : ByteArray} {a b : Bool} (h : s = t) (k : a = b) : Ending.returned (.tuple #[.string s, .bool a]) = .returned (.tuple #[.string t, .bool b]) := by rw [h, k]
set_option maxRecDepth 20000 in
set_option maxHeartbeats 8000000 in
theorem l13Normal (a b c : ByteArray) (w : World) (ha : a.size ≤ 1048576) (hb : b.size ≤ 1048576) (hc : c.size ≤ 1048576) (h0 : tx3 a b c = 0) :
    Calls Tryz.prog 155 #[.string a, .string b, .string c] w fun e w' => e = .returned (.tuple #[.string (noT (ckT (linesOf a) (linesOf b) (linesOf c))), .bool (clB (ckT (linesOf a) (linesOf b) (linesOf c)))]) ∧ Below w.heap.size w w' := by
  have hS1 := fun W => l1Split a W ha
  have hS2 := fun W => l1Split b W hb
  have hS3 := fun W => l1Split c W hc
  have hx := Tx.of h0
  have hSm := sml_of h0
  go_enter Tryz.func155, Tryz.ntmps155
  go_wp2_with fail
  refine (hS1 _).mono ?_; rintro e w3 ⟨v1, rfl, o1, b3⟩
  obtain ⟨p1, d1, rfl⟩ := shapeS o1
  have z3 := b3.size
  clear hS1
  go_wp2_with fail
  refine (hS2 _).mono ?_; rintro e w4 ⟨v2, rfl, o2, b4⟩
  obtain ⟨p2, d2, rfl⟩ := shapeS o2
  have B4 := b3.trans (b4.mono b3.size)
  have z4 := b4.size
  replace o1 := o1.kept (grownOfBelow b4 none) (blockCases _ _ fun _ _ e => by cases e)
  clear hS2 b3
  go_wp2_with fail
  refine (hS3 _).mono ?_; rintro e w5 ⟨v3, rfl, o3, b5⟩
  obtain ⟨p3, d3, rfl⟩ := shapeS o3
  have B5 := B4.trans (b5.mono B4.size)
  have z5 := b5.size
  replace o1 := o1.kept (grownOfBelow b5 none) (blockCases _ _ fun _ _ e => by cases e)
  replace o2 := o2.kept (grownOfBelow b5 none) (blockCases _ _ fun _ _ e => by cases e)
  have fz : ∀ {ss : List ByteArray}, (∀ x ∈ ss, x.size ≤ 1048576) → ∀ k, k < ss.length → (ss.getD k ByteArray.empty).size ≤ 9223372036854775807 := fun {ss} hy k hk => by
    rw [getD_at _ k hk]; have := hy _ (List.getElem_mem hk); omega
  have x3 : X3 w5.heap.size w5 p1 p2 p3 d1 d2 d3 (linesOf a) (linesOf b) (linesOf c) := ⟨(ownSS o1 (fz hx.y1)).toB, (ownSS o2 (fz hx.y2)).toB, (ownSS o3 (fz hx.y3)).toB⟩
  have hz := hx.z3 (own_cap o1).1 (own_cap o2).1 (own_cap o3).1
  have hL := l4Chunks p1 p2 p3 d1 d2 d3 (linesOf a) (linesOf b) (linesOf c) w5 x3 hz ⟨(own_cap o1).2, (own_cap o2).2, (own_cap o3).2⟩ hx.n1 hx.n2 hx.n3 (kp_ok _ _ _) (by have := ckT_len (linesOf a) (linesOf b) (linesOf c); have := hx.n1; unfold ckT kpL at *; omega)
  have hL' : Calls Tryz.prog 178 #[.slice p1 (linesOf a).length d1, .slice p2 (linesOf b).length d2, .slice p3 (linesOf c).length d3] w5 fun e w' => KPs (ckT (linesOf a) (linesOf b) (linesOf c)) w5 e w' := hL
  clear hS3 B4 b4 b5 o1 o2 o3 x3 hz hL
  have hlen : (ckT (linesOf a) (linesOf b) (linesOf c)).length ≤ 201 := hx.ok.short
  have hfit := ck_fits hx.y1 hx.y2 hx.y3
  go_wp2_with fail
  refine hL'.mono ?_; rintro e w6 ⟨v6, sl6, rfl, O6, b6⟩
  obtain ⟨p6, d6, rfl⟩ := shapeK O6.row
  have B6 : Below w.heap.size w w6 := B5.trans (b6.mono B5.size)
  have hKB := O6.read hfit
  obtain ⟨T, hTe⟩ : ∃ T, ckT (linesOf a) (linesOf b) (linesOf c) = T := ⟨_, rfl⟩
  have HTE : Hid (ckT (linesOf a) (linesOf b) (linesOf c) = T) := hTe
  rw [hTe] at hSm hlen hfit hKB ⊢
  have z6 := b6.size
  clear hL' O6 B5 b6 fz hx h0 hfit hTe
  go_wp2
  go_loopw [9, 10, 11, 12, 13, 14, 15] (fun o f i _ _ _ _ wr => ∃ k : Nat, k ≤ T.length ∧ i = .int .i64 k ∧ o = .string (noT (T.take k)) ∧ f = .bool (clB (T.take k)) ∧ Below w6.heap.size w6 wr) (fun _ _ i _ _ _ _ _ => T.length - (intOf i).toNat)
  case atStart => exact ⟨0, Nat.zero_le _, rfl, rfl, rfl, Below.refl _ _⟩
  case round =>
    obtain ⟨k, hk, rfl, rfl, rfl, bel⟩ := hrel
    have zr := bel.size
    by_cases hlt : k < T.length
    · have qk : (k : Int) < (T.length : Int) := by omega
      have hK := hKB.below bel
      obtain ⟨g, off, a1, c1, a2, c2, a3, c3, e, hg, d0, d1, d2, d3, n1, n2, n3⟩ := hK k hlt
      subst e
      have HT : Hid (noT (T.take (k + 1)) = noT (T.take k) ++ nkT (T.getD k cnil)) := noT_take T k hlt
      have HC : Hid (clB (T.take (k + 1)) = (clB (T.take k) || decide ((T.getD k cnil).1 = 4))) := clB_take T k hlt
      have hO := noT_size hSm k hk
      have hm : T.getD k cnil ∈ T := by simp [List.getD, hlt]
      obtain ⟨t1, t2, t3, l1, l2, l3⟩ := hSm _ hm
      obtain ⟨C, hC⟩ : ∃ C, T.getD k cnil = C := ⟨_, rfl⟩
      rw [hC] at d0 d1 d2 d3 n1 n2 n3 HT HC t1 t2 t3 l1 l2 l3
      obtain ⟨x0, s1, s2, s3⟩ := C
      simp only [] at d0 d1 d2 d3 n1 n2 n3 t1 t2 t3 l1 l2 l3
      obtain ⟨W4, hW4⟩ : ∃ W, wr.alloc (.cells #[.int .i64 0, .slice none 0 0, .slice none 0 0, .slice none 0 0] 209) = W := ⟨_, rfl⟩
      have b4 : Below wr.heap.size wr W4 := by rw [← hW4]; exact allocBelow _ _
      have r4 : Rf W4 wr.heap.size [.int .i64 0, .slice none 0 0, .slice none 0 0, .slice none 0 0] := by rw [← hW4]; exact Rf.new _ _ _
      obtain ⟨W7, hW7⟩ : ∃ W, (((W4.setCell ⟨wr.heap.size, 0, none⟩ (.int .i64 x0)).setCell ⟨wr.heap.size, 1, none⟩ (.slice a1 s1.length c1)).setCell ⟨wr.heap.size, 2, none⟩ (.slice a2 s2.length c2)).setCell ⟨wr.heap.size, 3, none⟩ (.slice a3 s3.length c3) = W := ⟨_, rfl⟩
      have b7 : Below wr.heap.size wr W7 := by rw [← hW7]; exact (((b4.setCell (p := ⟨wr.heap.size, 0, none⟩) (Nat.le_refl _) _).setCell (p := ⟨wr.heap.size, 1, none⟩) (Nat.le_refl _) _).setCell (p := ⟨wr.heap.size, 2, none⟩) (Nat.le_refl _) _).setCell (p := ⟨wr.heap.size, 3, none⟩) (Nat.le_refl _) _
      have r7 : Rf W7 wr.heap.size [.int .i64 x0, .slice a1 s1.length c1, .slice a2 s2.length c2, .slice a3 s3.length c3] := by rw [← hW7]; exact (((r4.set (o := 0) (by simp) _).set (o := 1) (by simp) _).set (o := 2) (by simp) _).set (o := 3) (by simp) _
      have y0 := r4.at_ 0 _ rfl
      have y1 := r4.at_ 1 _ rfl
      have y2 := r4.at_ 2 _ rfl
      have y3 := r4.at_ 3 _ rfl
      have f0 := r4.fz 0
      have f1 := r4.fz 1
      have f2 := r4.fz 2
      have f3 := r4.fz 3
      have e0 := r7.at_ 0 _ rfl
      have e1 := r7.at_ 1 _ rfl
      have e2 := r7.at_ 2 _ rfl
      have e3 := r7.at_ 3 _ rfl
      have z7 := b7.size
      have m1 := (n1.below b7).1.toSS (by omega)
      have m2 := (n2.below b7).1.toSS (by omega)
      have m3 := (n3.below b7).1.toSS (by omega)
      have j1 := fun W (h : SS W a1 s1) => l1Join a1 c1 s1 W h l1 (by omega)
      have j2 := fun W (h : SS W a2 s2) => l1Join a2 c2 s2 W h l2 (by omega)
      have j3 := fun W (h : SS W a3 s3) => l1Join a3 c3 s3 W h l3 (by omega)
      have k1 := cat_bd t1
      have k2 := cat_bd t2
      have k3 := cat_bd t3
      have HK : Hid (nkT (x0, s1, s2, s3) = nkT (x0, s1, s2, s3)) := rfl
      have B7 : Below w6.heap.size w6 W7 := bel.trans (b7.mono bel.size)
      have HX1 : Hid (catB s1 = catB s1) := rfl
      have pure1 : ∀ (W : World) (h : SS W a1 s1), Calls Tryz.prog 181 #[.slice a1 s1.length c1] W fun e w' => e = .returned (.string (catB s1)) ∧ w' = W := j1
      by_cases h4 : x0 = 4
      · subst h4
        cases hls : lsB (catB s3) (catB s2) with
        | true =>
          have HN : Hid (nkT (4, s1, s2, s3) = nk3 (catB s3) (catB s1) (catB s2)) := nkT_turned rfl hls
          have hl2 : (Op.bytesLess (catB s2).toList (catB s3).toList || (catB s2).toList == (catB s3).toList) = false := gt_yes hls
          generalize catB s1 = X1 at j1 k1 HN
          generalize catB s2 = X2 at j2 k2 HN hl2
          generalize catB s3 = X3 at j3 k3 HN hl2
          generalize noT (T.take k) = O at hO HT ⊢
          generalize clB (T.take k) = F at HC ⊢
          clear hC n1 n2 n3 hK HK HX1 pure1 hm hls r4 b4
          have hN1 := fun W => l13Number X3.size W (by omega)
          have hN2 := fun W => l13Number X1.size W (by omega)
          have hN3 := fun W => l13Number X2.size W (by omega)
          have HS : Hid (nk3 X3 X1 X2 = ⟨#[33]⟩ ++ szN X3.size ++ szN X1.size ++ szN X2.size ++ ⟨#[10]⟩ ++ X3 ++ X1 ++ X2) := rfl
          have hsz1 := szN_size (n := X3.size) (by omega)
          have hsz2 := szN_size (n := X1.size) (by omega)
          have hsz3 := szN_size (n := X2.size) (by omega)
          generalize szN X3.size = Z1 at hN1 HS hsz1
          generalize szN X1.size = Z2 at hN2 HS hsz2
          generalize szN X2.size = Z3 at hN3 HS hsz3
          go_upto_region 8 with fail
          try rw [hW7]
          clear hW7 hW4 y0 y1 y2 y3 f0 f1 f2 f3 d0 d1 d2 d3
          go_wp2_with fail
          refine (j2 _ m2).mono ?_; rintro e w' ⟨rfl, rfl⟩
          go_wp2_with fail
          refine (j3 _ m3).mono ?_; rintro e w' ⟨rfl, rfl⟩
          go_wp2_with fail
          refine (j3 _ m3).mono ?_; rintro e w' ⟨rfl, rfl⟩
          go_wp2_with fail
          refine (j2 _ m2).mono ?_; rintro e w' ⟨rfl, rfl⟩
          go_wp2_with fail
          refine (j1 _ m1).mono ?_; rintro e w' ⟨rfl, rfl⟩
          go_wp2_with fail
          refine (hN1 _).mono ?_; rintro e w8 ⟨rfl, b8⟩
          have B8 : Below w6.heap.size w6 w8 := B7.trans (b8.mono B7.size)
          clear b8 B7 e0 e1 e2 e3 r7 m1 m2 m3 j1 j2 j3
          go_wp2_with fail
          refine (hN2 _).mono ?_; rintro e w9 ⟨rfl, b9⟩
          have B9 : Below w6.heap.size w6 w9 := B8.trans (b9.mono B8.size)
          clear b9 B8
          go_wp2_with fail
          refine (hN3 _).mono ?_; rintro e wA ⟨rfl, bA⟩
          have BA : Below w6.heap.size w6 wA := B9.trans (bA.mono B9.size)
          clear bA B9
          go_wp2
          go_roundw
          case rel => exact ⟨k + 1, by omega, by go_num, by rw [HT.out, HN.out, HS.out]; simp only [ByteArray.append_assoc], by rw [HC.out]; simp, BA⟩
          case measure => first | (simp [intOf]; omega) | simp [intOf]
        | false =>
          have HN : Hid (nkT (4, s1, s2, s3) = nk3 (catB s2) (catB s1) (catB s3)) := nkT_clash rfl hls
          have hl2 : (Op.bytesLess (catB s2).toList (catB s3).toList || (catB s2).toList == (catB s3).toList) = true := gt_no hls
          generalize catB s1 = X1 at j1 k1 HN
          generalize catB s2 = X2 at j2 k2 HN hl2
          generalize catB s3 = X3 at j3 k3 HN hl2
          generalize noT (T.take k) = O at hO HT ⊢
          generalize clB (T.take k) = F at HC ⊢
          clear hC n1 n2 n3 hK HK HX1 pure1 hm hls r4 b4
          have hN1 := fun W => l13Number X2.size W (by omega)
          have hN2 := fun W => l13Number X1.size W (by omega)
          have hN3 := fun W => l13Number X3.size W (by omega)
          have HS : Hid (nk3 X2 X1 X3 = ⟨#[33]⟩ ++ szN X2.size ++ szN X1.size ++ szN X3.size ++ ⟨#[10]⟩ ++ X2 ++ X1 ++ X3) := rfl
          have hsz1 := szN_size (n := X2.size) (by omega)
          have hsz2 := szN_size (n := X1.size) (by omega)
          have hsz3 := szN_size (n := X3.size) (by omega)
          generalize szN X2.size = Z1 at hN1 HS hsz1
          generalize szN X1.size = Z2 at hN2 HS hsz2
          generalize szN X3.size = Z3 at hN3 HS hsz3
          go_upto_region 8 with fail
          try rw [hW7]
          clear hW7 hW4 y0 y1 y2 y3 f0 f1 f2 f3 d0 d1 d2 d3
          go_wp2_with fail
          refine (j2 _ m2).mono ?_; rintro e w' ⟨rfl, rfl⟩
          go_wp2_with fail
          refine (j3 _ m3).mono ?_; rintro e w' ⟨rfl, rfl⟩
          go_wp2_with fail
          refine (j1 _ m1).mono ?_; rintro e w' ⟨rfl, rfl⟩
          go_wp2_with fail
          refine (hN1 _).mono ?_; rintro e w8 ⟨rfl, b8⟩
          have B8 : Below w6.heap.size w6 w8 := B7.trans (b8.mono B7.size)
          clear b8 B7 e0 e1 e2 e3 r7 m1 m2 m3 j1 j2 j3
          go_wp2_with fail
          refine (hN2 _).mono ?_; rintro e w9 ⟨rfl, b9⟩
          have B9 : Below w6.heap.size w6 w9 := B8.trans (b9.mono B8.size)
          clear b9 B8
          go_wp2_with fail
          refine (hN3 _).mono ?_; rintro e wA ⟨rfl, bA⟩
          have BA : Below w6.heap.size w6 wA := B9.trans (bA.mono B9.size)
          clear bA B9
          go_wp2
          go_roundw
          case rel => exact ⟨k + 1, by omega, by go_num, by rw [HT.out, HN.out, HS.out]; simp only [ByteArray.append_assoc], by rw [HC.out]; simp, BA⟩
          case measure => first | (simp [intOf]; omega) | simp [intOf]
      · have q4 : (x0 != 4) = true := by simp [h4]
        by_cases h2 : x0 = 2
        · subst h2
          have HN : Hid (nkT (2, s1, s2, s3) = nk1 (catB s3)) := nkT_theirs rfl
          generalize catB s1 = X1 at j1 k1 HN
          generalize catB s2 = X2 at j2 k2 HN
          generalize catB s3 = X3 at j3 k3 HN
          generalize noT (T.take k) = O at hO HT ⊢
          generalize clB (T.take k) = F at HC ⊢
          clear hC n1 n2 n3 hK HK HX1 pure1 hm r4 b4
          have hNm := fun W => l13Number X3.size W (by omega)
          have HS : Hid (nk1 X3 = ⟨#[61]⟩ ++ szN X3.size ++ ⟨#[10]⟩ ++ X3) := rfl
          have hsz := szN_size (n := X3.size) (by omega)
          generalize szN X3.size = Z at hNm HS hsz
          go_upto_region 8 with fail
          try rw [hW7]
          clear hW7 hW4 y0 y1 y2 y3 f0 f1 f2 f3 d0 d1 d2 d3
          go_wp2_with fail
          refine (j2 _ m2).mono ?_; rintro e w' ⟨rfl, rfl⟩
          go_wp2_with fail
          refine (j3 _ m3).mono ?_; rintro e w' ⟨rfl, rfl⟩
          go_wp2_with fail
          refine (hNm _).mono ?_; rintro e w8 ⟨rfl, b8⟩
          have B8 : Below w6.heap.size w6 w8 := B7.trans (b8.mono B7.size)
          clear b8 B7 e0 e1 e2 e3 r7 m1 m2 m3
          go_wp2
          go_roundw
          case rel => exact ⟨k + 1, by omega, by go_num, by rw [HT.out, HN.out, HS.out]; simp only [ByteArray.append_assoc], by rw [HC.out, decide_eq_false (by show ¬ _; omega), Bool.or_false], B8⟩
          case measure => first | (simp [intOf]; omega) | simp [intOf]
        · have HN : Hid (nkT (x0, s1, s2, s3) = nk1 (catB s2)) := nkT_ours h4 h2
          generalize catB s1 = X1 at j1 k1 HN
          generalize catB s2 = X2 at j2 k2 HN
          generalize catB s3 = X3 at j3 k3 HN
          generalize noT (T.take k) = O at hO HT ⊢
          generalize clB (T.take k) = F at HC ⊢
          clear hC n1 n2 n3 hK HK HX1 pure1 hm r4 b4
          have hNm := fun W => l13Number X2.size W (by omega)
          have HS : Hid (nk1 X2 = ⟨#[61]⟩ ++ szN X2.size ++ ⟨#[10]⟩ ++ X2) := rfl
          have hsz := szN_size (n := X2.size) (by omega)
          generalize szN X2.size = Z at hNm HS hsz
          go_upto_region 8 with fail
          try rw [hW7]
          clear hW7 hW4 y0 y1 y2 y3 f0 f1 f2 f3 d0 d1 d2 d3
          go_wp2_with fail
          refine (j2 _ m2).mono ?_; rintro e w' ⟨rfl, rfl⟩
          go_wp2_with fail
          refine (j3 _ m3).mono ?_; rintro e w' ⟨rfl, rfl⟩
          go_wp2_with fail
          refine (hNm _).mono ?_; rintro e w8 ⟨rfl, b8⟩
          have B8 : Below w6.heap.size w6 w8 := B7.trans (b8.mono B7.size)
          clear b8 B7 e0 e1 e2 e3 r7 m1 m2 m3
          go_wp2
          go_roundw
          case rel => exact ⟨k + 1, by omega, by go_num, by rw [HT.out, HN.out, HS.out]; simp only [ByteArray.append_assoc], by rw [HC.out, decide_eq_false (by show ¬ _; omega), Bool.or_false], B8⟩
          case measure => first | (simp [intOf]; omega) | simp [intOf]
    · have HR : Hid (T.take k = T) := List.take_of_length_le (by omega)
      have qk : ¬ (k : Int) < (T.length : Int) := by omega
      rw [HR.out]
      go_wp2
      go_ret2
      exact ⟨ret_sb (by rw [HTE.out]) (by rw [HTE.out]), B6.trans (bel.mono B6.size)⟩
set_option maxRecDepth 20000 in
set_option maxHeartbeats 4000000 in
theorem specNormalText (a b c : ByteArray) (w : World) (ha : a.size ≤ 1048576) (hb : b.size ≤ 1048576) (hc : c.size ≤ 1048576) :
    Calls Tryz.prog 106 #[.string a, .string b, .string c] w fun e w' => e = .returned (.agg #[.int .i64 (noC a b c), .string (noX a b c)]) ∧ Below w.heap.size w w' := by
  obtain ⟨b0, hb0⟩ : ∃ b, w.heap.size = b := ⟨_, rfl⟩
  obtain ⟨W1, hW1⟩ : ∃ W, w.alloc (.cells #[.int .i64 0, .string ⟨#[]⟩] 59) = W := ⟨_, rfl⟩
  have b1 : Below b0 w W1 := by rw [← hW1, ← hb0]; exact allocBelow _ _
  have r1 : Res2 W1 b0 (.int .i64 0) (.string ⟨#[]⟩) := by rw [← hW1, ← hb0]; exact Res2.new _ _ _ _
  have z1 : W1.heap.size = b0 + 1 := by rw [← hW1, ← hb0]; simp
  have hT := l4Texts a b c W1 ha hb hc
  by_cases h0 : tx3 a b c = 0
  · rw [h0] at hT
    have hL := fun W => l13Normal a b c W ha hb hc h0
    go_enter Tryz.func106, Tryz.ntmps106
    go_wp2_with fail
    refine hT.mono ?_; rintro e w2 ⟨rfl, b2⟩
    have B2 : Below b0 w w2 := b1.trans (b2.mono (by omega))
    have r2 := r1.below (by omega) b2
    have z2 := b2.size
    clear hT b1 b2 r1
    by_cases hk : cc (ckT (linesOf a) (linesOf b) (linesOf c)) = 0
    · have HR : Hid (noC a b c = 4 ∧ noX a b c = ⟨#[]⟩) := no_none h0 hk
      rw [clB_cc, hk] at hL
      generalize noT (ckT (linesOf a) (linesOf b) (linesOf c)) = Y at hL
      have e0 : decide (¬ (0 : Int) = 0) = false := by decide
      rw [e0] at hL
      clear h0 hk e0
      go_wp2_with fail
      refine (hL _).mono ?_; rintro e w3 ⟨rfl, b3⟩
      have B3 : Below b0 w w3 := B2.trans (b3.mono (by omega))
      have r3 := r2.below (by omega) b3
      have d0 := r3.c0
      have d1 := r3.c1
      have f0 := r3.f0
      have f1 := r3.f1
      clear r2 r3 B2 b3 hL
      go_wp2
      refine bodyPost_ret (v := .agg #[.int .i64 4, .string ⟨#[]⟩]) (by simp [results, Tryz.results106, go_sem, d0, d1]) rfl ?_
      exact ⟨ret_ct HR.out.1.symm HR.out.2.symm, by rw [hb0]; exact below_sets B3 (Nat.le_refl _) _ _⟩
    · have HR : Hid (noC a b c = 0 ∧ noX a b c = noT (ckT (linesOf a) (linesOf b) (linesOf c))) := no_some h0 hk
      rw [clB_cc, decide_eq_true hk] at hL
      generalize noT (ckT (linesOf a) (linesOf b) (linesOf c)) = Y at hL HR
      clear h0 hk
      go_wp2_with fail
      refine (hL _).mono ?_; rintro e w3 ⟨rfl, b3⟩
      have B3 : Below b0 w w3 := B2.trans (b3.mono (by omega))
      have r3 := r2.below (by omega) b3
      have d0 := r3.c0
      have d1 := r3.c1
      have f0 := r3.f0
      have f1 := r3.f1
      clear r2 r3 B2 b3 hL
      go_wp2
      refine bodyPost_ret (v := .agg #[.int .i64 0, .string Y]) (by simp [results, Tryz.results106, go_sem, d0, d1]) rfl ?_
      exact ⟨ret_ct HR.out.1.symm HR.out.2.symm, by rw [hb0]; exact below_sets B3 (Nat.le_refl _) _ _⟩
  · have HR : Hid (noC a b c = tx3 a b c ∧ noX a b c = ⟨#[]⟩) := no_fault h0
    have q0 : (tx3 a b c != 0) = true := by simp [h0]
    generalize tx3 a b c = V at hT HR q0
    go_enter Tryz.func106, Tryz.ntmps106
    go_wp2_with fail
    refine hT.mono ?_; rintro e w2 ⟨rfl, b2⟩
    have B2 : Below b0 w w2 := b1.trans (b2.mono (by omega))
    have r2 := r1.below (by omega) b2
    have d0 := r2.c0
    have d1 := r2.c1
    have f0 := r2.f0
    have f1 := r2.f1
    clear r2 r1 b1 b2 hT
    go_wp2
    refine bodyPost_ret (v := .agg #[.int .i64 V, .string ⟨#[]⟩]) (by simp [results, Tryz.results106, go_sem, d0, d1]) rfl ?_
    exact ⟨ret_ct HR.out.1.symm HR.out.2.symm, by rw [hb0]; exact below_sets B2 (Nat.le_refl _) _ _⟩
end Go.Proofs.YtmmccpdaklkciaaGreatDoor.No
