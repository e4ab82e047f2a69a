/- Proved: at every code of bytes FnMatches returns true (lines that are matched are the same, in both orders, and as many as may be), and the code reads as before. No condition: FnMatchesSaid itself. -/
import Derived.Test.YtbmokagmpdgidaaRows
import Derived.Test.YtbmokagmpdgidaaLem
import Derived.Test.YtbmokagmpdgidaaStrs
import Derived.Test.YtbmokagmpdgidaaLFLem
import Derived.Test.YtbmokagmpdgidaaLF
import Derived.Test.YtbmokagmpdgidaaCom
import Derived.Test.YtbmokagmpdgidaaAsked
import Derived.Test.YtbmokagmpdgidaaDTab
import Derived.Test.YtbmokagmpdgidaaOwn
import Derived.Test.YtbmokagmpdgidaaFr
import Derived.Test.YtbmokagmpdgidaaPairs
import Derived.Test.YtbmokagmpdgidaaPairR
import Derived.Test.YtbmokagmpdgidaaCoC
import Derived.Test.YtbmokagmpdgidaaEdC
import Derived.Test.YtbmokagmpdgidaaSameC
import Derived.Test.YtbmokagmpdgidaaTri
import Derived.Test.YtbmokagmpdgidaaMtL
import Derived.Test.YtbmokagmpdgidaaDraw
import Derived.Test.YtbmokagmpdgidaaDraw8
import Derived.Test.YtbmokagmpdgidaaEdA
import Derived.WalkKit
import Derived.ProofKit
import Derived.OpenShut
import Derived.Below
import Derived.Carry
import Derived.Deep.QuietTactic
import Derived.BigQuiet
import Derived.Deep.RegionWith
import Derived.Deep.CutRange
import Derived.Deep.RegionHeld
namespace Go.Proofs.Ytbmokagmpdgidaa.MtF
open Go.ChangeShapes Go.WideShapes Go.ChangeAt Go.RowKit

theorem lwBig (a : Option Addr) (n cap : Nat) (w : World) : Calls Try.prog 8 #[.slice a n cap] w fun e w' => e = .returned (.bool (decide ((1048576 : Int) < (n : Int)))) ∧ w' = w := by
  go_enter Try.func8, Try.ntmps8
  go_wp2
  go_ret
  exact ⟨rfl, rfl⟩
theorem zc {w w' : World} {b o : Nat} {v : Value} (h : Below w.heap.size w w') (hc : w.cell? ⟨b, o, none⟩ = some v) : w'.cell? ⟨b, o, none⟩ = some v := (Fr.ofBelow (lo := 0) (hi := 0) h).cell hc (.inr (Nat.zero_le _))
set_option maxHeartbeats 800000 in
theorem drawMatchLines (a : Option Addr) (n cap : Nat) (w : World) (h : Bts w a n) (hn : n ≤ 2097152) :
    Calls Try.prog 19 #[.slice a n cap] w fun e w' => ∃ (a1 : Option Addr) (c1 : Nat) (xs : List ByteArray) (a2 : Option Addr) (c2 : Nat) (ys : List ByteArray), e = .returned (.tuple #[.slice a1 xs.length c1, .slice a2 ys.length c2]) ∧ SS w' a1 xs ∧ SS w' a2 ys ∧ xs.length ≤ 1000 ∧ ys.length ≤ 1000 ∧ tot xs ≤ 9000 ∧ tot ys ≤ 9000 ∧ Below w.heap.size w w' := by
  go_enter Try.func19, Try.ntmps19
  go_wp2_with fail
  refine (l1Source a n cap _ h hn).mono ?_; rintro e w1 ⟨rfl, hs1, hb1⟩
  go_wp2_with fail
  refine (l2Two _ _ a n cap 0 _ hs1 (by omega)).mono ?_; rintro e w2 ⟨a1, c1, xs, a2, c2, ys, rfl, S1, S2, l1, l2, m1, m2, g⟩
  have t1 := m1.totN
  have t2 := m2.totN
  have HB : Hid (Below w.heap.size w w2) := hb1.grown g hb1.size (fun j hj => by cases hj; exact Nat.le_refl _)
  clear hb1 g hs1
  go_wp2_with fail
  refine bodyPost_ret (v := .tuple #[.slice a1 xs.length c1, .slice a2 ys.length c2]) (by simp [results, Try.results19, go_sem]) rfl ?_
  exact ⟨a1, c1, xs, a2, c2, ys, rfl, S1, S2, l1, l2, by omega, by omega, HB.out⟩

set_option maxRecDepth 20000 in
set_option maxHeartbeats 4000000 in
theorem walk (a : Option Addr) (n cap : Nat) (w : World) (h : Bts w a n) (_hm : n ≤ 9223372036854775807) :
    Calls Try.prog 4 #[.slice a n cap] w fun e w' => e = .returned (.bool true) ∧ Below w.heap.size w w' := by
  by_cases hbig : (1048576 : Int) < (n : Int)
  · go_enter Try.func4, Try.ntmps4
    go_wp2_with (go_at_call 8; refine (lwBig _ _ _ _).mono ?_; rintro e w' ⟨rfl, rfl⟩)
    go_ret
    exact ⟨rfl, Below.refl _ _⟩
  go_enter Try.func4, Try.ntmps4
  go_wp2_with fail
  refine (lwBig _ _ _ _).mono ?_; rintro e w ⟨rfl, rfl⟩
  go_wp2_with fail
  refine (drawMatchLines a n cap _ h (by omega)).mono ?_; rintro e w1 ⟨ax, cx, xs, ay, cy, ys, rfl, Sx, Sy, lx, ly, tx, ty, b1⟩
  clear h
  have hM := fun w p q => implMatchLines ax ay cx cy xs ys w p q (by omega) (by omega)
  have hS := fun w p q => specMatchLines ax ay cx cy xs ys w p q (by omega) (by omega) (by omega) (by omega)
  have hCab := fun w p q => implCommonOf ax ay cx cy xs ys w p q (by omega) (by omega)
  have hCba := fun w p q => implCommonOf ay ax cy cx ys xs w p q (by omega) (by omega)
  have hCaa := fun w p q => implCommonOf ax ax cx cx xs xs w p q (by omega) (by omega)
  have hE := fun w p q => implEditCount ax ay cx cy xs ys w p q (by omega) (by omega)
  go_wp2_with fail
  refine (hM _ Sx Sy).mono ?_; rintro e w2 ⟨v1, v2, rfl, hP, b2⟩
  obtain ⟨va, ca, ea⟩ := own_shape hP.o1
  obtain ⟨vb, cb, eb⟩ := own_shape hP.o2
  subst ea eb
  obtain ⟨W3, hW3⟩ : ∃ W, w2.alloc (.cells #[.int .i64 (asked xs ys), .slice va (matL xs ys).length ca, .slice vb (matL xs ys).length cb] 40) = W := ⟨_, rfl⟩
  have R : Rs W3 w2.heap.size [.int .i64 (asked xs ys), .slice va (matL xs ys).length ca, .slice vb (matL xs ys).length cb] := by rw [← hW3]; exact Rs.new _ _ _
  have c3 : Below w1.heap.size w1 W3 := by rw [← hW3]; exact b2.alloc b2.size _
  have d3 : Below w2.heap.size w2 W3 := by rw [← hW3]; exact allocBelow _ _
  have P3 := hP.below d3
  have Sx3 := Sx.below c3
  have Sy3 := Sy.below c3
  have B3 := b1.trans (c3.mono b1.size)
  clear hM hP b2 b1 Sx Sy c3 d3
  by_cases h0 : asked xs ys = 0
  · obtain ⟨f1, f2⟩ := asked_zero h0
    have e2 : asked ys xs = 0 := by rw [asked_right f2]; exact f1
    have e3 : asked xs xs = 0 := by rw [asked_right f1]; exact f1
    have m0 := mat_com xs ys
    have k1 : comV xs ys = ((mat xs ys 0 0).length : Int) := by rw [comV_ok h0, comAt_zero, m0]
    have k2 : comV ys xs = ((mat xs ys 0 0).length : Int) := by rw [comV_ok e2, comAt_zero, m0, com_symm _ ys xs (Nat.le_refl _)]
    have k3 : comV xs xs = (xs.length : Int) := by rw [comV_ok e3, comAt_zero, com_self]
    have k4 : edV xs ys = (xs.length : Int) + ys.length - 2 * ((mat xs ys 0 0).length : Int) := by rw [edV_ok h0, edits_changes, m0]
    have e4 := matL_ok h0
    have HI : Hid (∀ k, k < (mat xs ys 0 0).length → (mt xs ys k).1 < xs.length ∧ (mt xs ys k).2 < ys.length ∧ xs.getD (mt xs ys k).1 ByteArray.empty = ys.getD (mt xs ys k).2 ByteArray.empty) := fun k hk => mt_in hk
    have HR : Hid (∀ k m, k < (mat xs ys 0 0).length → m < k → (mt xs ys m).1 < (mt xs ys k).1 ∧ (mt xs ys m).2 < (mt xs ys k).2) := fun k m hk hm => mt_rises hk hm
    have HA : Hid (∀ k, k < (mat xs ys 0 0).length → (fsts (mat xs ys 0 0))[k]? = some (.int .i64 ((mt xs ys k).1 : Int)) ∧ (snds (mat xs ys 0 0))[k]? = some (.int .i64 ((mt xs ys k).2 : Int))) := fun k hk => by
      unfold fsts snds mt
      rw [List.getElem?_map, List.getElem?_map, List.getD, List.getElem?_eq_getElem hk]
      exact ⟨rfl, rfl⟩
    have hlM : (mat xs ys 0 0).length ≤ 1000 := by rw [m0]; have := (com_le_length _ xs ys (Nat.le_refl _)).1; omega
    rw [h0, k1] at hCab
    rw [e2, k2] at hCba
    rw [e3, k3] at hCaa
    rw [h0, k4] at hE
    rw [h0, e4] at R hW3 ⊢
    rw [e4] at P3
    obtain ⟨M, hMe⟩ : ∃ M, mat xs ys 0 0 = M := ⟨_, rfl⟩
    rw [hMe] at hCab hCba hE R hW3 P3 HI HR HA hlM ⊢
    clear hS f1 f2 e2 e3 m0 k1 k2 k3 k4 e4 hMe h0
    obtain ⟨p, hp⟩ : ∃ p, w2.heap.size = p := ⟨_, rfl⟩
    have r0 := R 0 _ rfl
    have r1 := R 1 _ rfl
    have r2 := R 2 _ rfl
    rw [hp] at r0 r1 r2
    have nn : ((M.length : Int) != (M.length : Int)) = false := by simp
    have ne : ((M.length : Int) == (M.length : Int)) = true := by simp
    have z0 : ((0 : Int) == 0) = true := by decide
    have fl : ∀ w, (Instr.field 43 (.agg #[.int .i64 0, .int .i64 (M.length : Int)]) 1).run Try.prog w = .ok (.int .i64 (M.length : Int)) w := fun w => by kernel_rfl
    go_upto_region 7 with fail
    go_cut [52] from 27 to 53 (fun s wx => s = .bool false ∧ Below W3.heap.size W3 wx)
    case first =>
      have BD : Below W3.heap.size W3 W3.drew := (Below.refl _ _).drew
      have SxD := Sx3.below BD
      have SyD := Sy3.below BD
      clear lx ly tx ty R hW3 hp HI HR HA P3 B3 Sx3 Sy3 hCaa hE hbig r0
      go_region_held (fun w' => w'.cell? ⟨p, 1, none⟩ = some (.slice va M.length ca) ∧ w'.cell? ⟨p, 2, none⟩ = some (.slice vb M.length cb)) (first | with_reducible exact ⟨r1c, r2c⟩ | with_reducible exact ⟨r1b, r2b⟩ | with_reducible exact ⟨r1a, r2a⟩ | exact ⟨r1, r2⟩)
        (first | (go_at_call 22; have gd := Bt2; clear gd; refine (hCba _ Sy2 Sx2).mono ?_; rintro e w3' ⟨rfl, b3'⟩; have r1c := zc b3' r1b; have r2c := zc b3' r2b; have Bt3 := below_step Bt2 Bt2.size b3') | (go_at_call 22; have gd := Bt1; clear gd; refine (hCab _ Sx1 Sy1).mono ?_; rintro e wb ⟨rfl, bb⟩; have r1b := zc bb r1a; have r2b := zc bb r2a; have Sx2 := Sx1.below bb; have Sy2 := Sy1.below bb; have Bt2 := below_step Bt1 Bt1.size bb) | (go_at_call 22; refine (hCab _ SxD SyD).mono ?_; rintro e wa ⟨rfl, ba⟩; have r1a := zc ba r1; have r2a := zc ba r2; have Sx1 := SxD.below ba; have Sy1 := SyD.below ba; have Bt1 := below_step BD BD.size ba))
      all_goals (go_wp2_with fail; go_meet; exact ⟨rfl, Bt3⟩)
    case rest =>
    obtain ⟨rfl, b⟩ := hcut
    have zp : p < W3.heap.size := by rw [← hW3, ← hp]; simp
    have r1' := zc b r1
    have r2' := zc b r2
    have P4 := P3.below (Below.mono b (Nat.le_refl _))
    have Sx4 := Sx3.below b
    have Sy4 := Sy3.below b
    have B4 := B3.trans (b.mono B3.size)
    clear r0 r1 r2 P3 Sx3 Sy3 B3 b hCab hCba R hW3 hp fl
    obtain ⟨W4, hW4⟩ : ∃ W, W = wc := ⟨_, rfl⟩
    subst hW4
    go_wp2
    go_loopw [6] (fun i wr => ∃ k : Nat, k ≤ M.length ∧ i = .int .i64 k ∧ ∃ nq, wr = W4.drewN nq) (fun i _ => M.length - (intOf i).toNat)
    case atStart => exact ⟨0, Nat.zero_le _, rfl, 0, rfl⟩
    case round =>
      obtain ⟨k, hk, rfl, nr, hwr⟩ := hrel
      have HW : Hid (wr = W4.drewN nr) := hwr
      have rr1 : wr.cell? ⟨p, 1, none⟩ = some (.slice va M.length ca) := by rw [hwr]; exact r1'
      have rr2 : wr.cell? ⟨p, 2, none⟩ = some (.slice vb M.length cb) := by rw [hwr]; exact r2'
      by_cases hlt : k < M.length
      · have q : (k : Int) < (M.length : Int) := by omega
        obtain ⟨ga, rfl⟩ : ∃ g, va = some ⟨g, 0, none⟩ := by
          rcases P4.o1.2 with ⟨h', h0⟩ | ⟨g, c, cur, h', _⟩
          · omega
          · simp only [Value.slice.injEq] at h'; exact ⟨g, h'.1⟩
        obtain ⟨gb, rfl⟩ : ∃ g, vb = some ⟨g, 0, none⟩ := by
          rcases P4.o2.2 with ⟨h', h0⟩ | ⟨g, c, cur, h', _⟩
          · omega
          · simp only [Value.slice.injEq] at h'; exact ⟨g, h'.1⟩
        have cA : ∀ j, j < M.length → wr.cell? ⟨ga, j, none⟩ = some (.int .i64 ((mt xs ys j).1 : Int)) := fun j hj => by rw [hwr]; exact (P4.o1.cellAt j (by omega)).trans (HA.out j hj).1
        have cB : ∀ j, j < M.length → wr.cell? ⟨gb, j, none⟩ = some (.int .i64 ((mt xs ys j).2 : Int)) := fun j hj => by rw [hwr]; exact (P4.o2.cellAt j (by omega)).trans (HA.out j hj).2
        have cAk := cA k hlt
        have cBk := cB k hlt
        obtain ⟨iX, iY, iE⟩ := HI.out k hlt
        obtain ⟨bx, ox, ex, _, sx⟩ := Sx4.2 _ iX
        obtain ⟨by', oy, ey, _, sy⟩ := Sy4.2 _ iY
        subst ex ey
        rw [← iE] at sy
        have hup := fun m hm => HR.out k m hlt hm
        have sx' : wr.cell? ⟨bx, ox + (mt xs ys k).1, none⟩ = some (.string (xs.getD (mt xs ys k).1 ByteArray.empty)) := by rw [hwr]; exact sx
        have sy' : wr.cell? ⟨by', oy + (mt xs ys k).2, none⟩ = some (.string (xs.getD (mt xs ys k).1 ByteArray.empty)) := by rw [hwr]; exact sy
        obtain ⟨s, hse⟩ : ∃ s, xs.getD (mt xs ys k).1 ByteArray.empty = s := ⟨_, rfl⟩
        rw [hse] at sx' sy'
        have hss := beq_bytes_true (rfl : s = s)
        have kX : ((mt xs ys k).1 : Int) < (xs.length : Int) := by omega
        have kY : ((mt xs ys k).2 : Int) < (ys.length : Int) := by omega
        by_cases hk0 : 0 < k
        · obtain ⟨m, hmk⟩ : ∃ m, k - 1 = m := ⟨_, rfl⟩
          have hw : IntKind.i64.wrap ((k : Int) - 1) = (m : Int) := by rw [IntKind.wrap_i64]; omega
          have hI0 : (0 : Int) < (k : Int) := by omega
          have hmI : (m : Int) < (M.length : Int) := by omega
          have cAm := cA m (by omega)
          have cBm := cB m (by omega)
          obtain ⟨u1, u2⟩ := hup m (by omega)
          obtain ⟨p1, hp1⟩ : ∃ p, (mt xs ys k).1 = p := ⟨_, rfl⟩
          obtain ⟨p2, hp2⟩ : ∃ p, (mt xs ys k).2 = p := ⟨_, rfl⟩
          obtain ⟨q1, hq1⟩ : ∃ p, (mt xs ys m).1 = p := ⟨_, rfl⟩
          obtain ⟨q2, hq2⟩ : ∃ p, (mt xs ys m).2 = p := ⟨_, rfl⟩
          rw [hp1] at cAk sx' kX u1
          rw [hp2] at cBk sy' kY u2
          rw [hq1] at cAm u1
          rw [hq2] at cBm u2
          have v1 : ¬ (p1 : Int) ≤ (q1 : Int) := by omega
          have v2 : ¬ (p2 : Int) ≤ (q2 : Int) := by omega
          have v3 : ¬ p1 ≤ q1 := by omega
          have v4 : ¬ p2 ≤ q2 := by omega
          have v5 : decide ((p1 : Int) ≤ (q1 : Int)) = false := decide_eq_false v1
          have v6 : decide ((p2 : Int) ≤ (q2 : Int)) = false := decide_eq_false v2
          clear hp1 hp2 hq1 hq2 hmk hup iX iY iE hse sx sy cA cB u1 u2 hwr P4 Sx4 Sy4 r1' r2'
          go_wp2
          go_quiet (fail)
          go_wp2
          go_roundw
          case rel => exact ⟨k + 1, by omega, by go_num, nr + nq, by rw [HW.out, World.drewN_drewN]⟩
          case measure => first | (simp [intOf]; omega) | simp [intOf]
        · have hI0 : ¬ (0 : Int) < (k : Int) := by omega
          obtain ⟨p1, hp1⟩ : ∃ p, (mt xs ys k).1 = p := ⟨_, rfl⟩
          obtain ⟨p2, hp2⟩ : ∃ p, (mt xs ys k).2 = p := ⟨_, rfl⟩
          rw [hp1] at cAk sx' kX
          rw [hp2] at cBk sy' kY
          clear hp1 hp2 hup iX iY iE hse sx sy cA cB hwr P4 Sx4 Sy4 r1' r2'
          go_wp2
          go_quiet (fail)
          go_wp2
          go_roundw
          case rel => exact ⟨k + 1, by omega, by go_num, nr + nq, by rw [HW.out, World.drewN_drewN]⟩
          case measure => first | (simp [intOf]; omega) | simp [intOf]
      · have q : ¬ (k : Int) < (M.length : Int) := by omega
        have Sx5 : SS wr ax xs := by rw [hwr]; exact Sx4.drewN nr
        have Sy5 : SS wr ay ys := by rw [hwr]; exact Sy4.drewN nr
        have B5 : Below w.heap.size w wr := by rw [hwr]; exact below_drewN' B4 nr
        clear hwr HW r1' r2' P4 Sx4 Sy4 B4 HI HR HA
        have hw1 : IntKind.i64.wrap ((xs.length : Int) + (ys.length : Int)) = (xs.length : Int) + (ys.length : Int) := by rw [IntKind.wrap_i64]; omega
        have hw2 : IntKind.i64.wrap (2 * (M.length : Int)) = 2 * (M.length : Int) := by rw [IntKind.wrap_i64]; omega
        have hw3 : IntKind.i64.wrap ((xs.length : Int) + (ys.length : Int) - 2 * (M.length : Int)) = (xs.length : Int) + (ys.length : Int) - 2 * (M.length : Int) := by rw [IntKind.wrap_i64]; omega
        have fl3 : ∀ w, (Instr.field 43 (.agg #[.int .i64 0, .int .i64 (xs.length : Int)]) 1).run Try.prog w = .ok (.int .i64 (xs.length : Int)) w := fun w => by kernel_rfl
        have fl4 : ∀ w, (Instr.field 43 (.agg #[.int .i64 0, .int .i64 ((xs.length : Int) + (ys.length : Int) - 2 * (M.length : Int))]) 1).run Try.prog w = .ok (.int .i64 ((xs.length : Int) + (ys.length : Int) - 2 * (M.length : Int))) w := fun w => by kernel_rfl
        have ex : ((xs.length : Int) == (xs.length : Int)) = true := by simp
        have ev : (((xs.length : Int) + (ys.length : Int) - 2 * (M.length : Int)) == ((xs.length : Int) + (ys.length : Int) - 2 * (M.length : Int))) = true := by simp
        go_upto_region 14 with fail
        go_cut [2] from 109 to 133 (fun s wx => s = .bool true ∧ Below wr.heap.size wr wx)
        case first =>
          have BD : Below wr.heap.size wr wr.drew := (Below.refl _ _).drew
          have SxD := Sx5.below BD
          have SyD := Sy5.below BD
          clear lx ly tx ty Sx5 Sy5 B5 hbig rr2 nn ne zp
          go_region_held (fun w' => w'.cell? ⟨p, 1, none⟩ = some (.slice va M.length ca)) (first | with_reducible exact r1b | with_reducible exact r1a | exact rr1)
            (first | (go_at_call 23; refine (hE _ Sx1 Sy1).mono ?_; rintro e wb ⟨rfl, bb⟩; have r1b := zc bb r1a; have Bt2 := below_step Bt1 Bt1.size bb) | (go_at_call 22; refine (hCaa _ SxD SxD).mono ?_; rintro e wa ⟨rfl, ba⟩; have r1a := zc ba rr1; have Sx1 := SxD.below ba; have Sy1 := SyD.below ba; have Bt1 := below_step BD BD.size ba))
          all_goals (go_wp2_with fail; go_meet; exact ⟨rfl, Bt2⟩)
        case rest =>
        obtain ⟨rfl, b⟩ := hcut
        have BE := B5.trans (b.mono B5.size)
        clear b
        go_wp2_with fail
        go_ret
        exact ⟨rfl, BE⟩
  · have q0 : (asked xs ys != 0) = true := by simp [h0]
    obtain ⟨p, hp⟩ : ∃ p, w2.heap.size = p := ⟨_, rfl⟩
    have r0 := R 0 _ rfl
    rw [hp] at r0
    obtain ⟨K, hK⟩ : ∃ K, asked xs ys = K := ⟨_, rfl⟩
    have hS' : ∀ w, SS w ax xs → SS w ay ys → Calls Try.prog 21 #[.slice ax xs.length cx, .slice ay ys.length cy] w fun e w' => (∃ v1 v2, e = .returned (.agg #[.int .i64 K, v1, v2])) ∧ Below w.heap.size w w' := fun w p q => (hS w p q).mono fun e w' ⟨v1, v2, he, _, hb⟩ => ⟨⟨v1, v2, by rw [he, hK]⟩, hb⟩
    rw [hK] at q0 r0 hW3 ⊢
    have kk : (K == K) = true := by simp
    have fl : ∀ v1 v2 w, (Instr.field 40 (.agg #[.int .i64 K, v1, v2]) 0).run Try.prog w = .ok (.int .i64 K) w := fun v1 v2 w => by kernel_rfl
    clear hS hCab hCba hCaa hE R P3 h0 hK
    go_upto_region 6 with fail
    go_cut [2] from 20 to 27 (fun s wx => s = .bool true ∧ Below W3.heap.size W3 wx)
    case first =>
      have BD : Below W3.heap.size W3 W3.drew := (Below.refl _ _).drew
      have SxD := Sx3.below BD
      have SyD := Sy3.below BD
      clear lx ly tx ty Sx3 Sy3 B3 hbig hW3 hp
      go_region_held (fun w' => w'.cell? ⟨p, 0, none⟩ = some (.int .i64 K)) (first | with_reducible exact r0a | exact r0)
        ((go_at_call 21; refine (hS' _ SxD SyD).mono ?_; rintro e wa ⟨⟨v1, v2, rfl⟩, ba⟩; have r0a := zc ba r0; have Bt1 := below_step BD BD.size ba))
      all_goals (go_wp2_with fail; go_meet; exact ⟨rfl, Bt1⟩)
    case rest =>
    obtain ⟨rfl, b⟩ := hcut
    have BE := B3.trans (b.mono B3.size)
    clear b
    go_wp2_with fail
    go_ret
    exact ⟨rfl, BE⟩

set_option linter.unusedVariables false
theorem laidOut : laidOutB Try.prog = true := by kernel_rfl
theorem own : ownKnob Try.prog.godebug = none := by kernel_rfl
set_option maxRecDepth 100000 in
theorem lifted (os : Os) (started : os.Started) (H : Type) (enc : TypeId × Value → H) :
    ReturnsInHanded {} Try.checked os 4 .any (Rows.fnMatchesSpec.pre6 enc Try.prog Try.f4 Rows.fnMatchesRow.domain false) (Rows.fnMatchesSpec.post enc Try.prog Try.f4 false true false false) := by
  refine returnsInHanded_of_change (C := Try.checked) own started (by kernel_rfl) Try.func4
    (ChangeSpec.witness6 (enc := enc) (C := Try.checked) false ⟨#[], #[.slice none 0 0], []⟩ 8 (by kernel_rfl) (by kernel_rfl) (by kernel_rfl) (by kernel_rfl)) ?_
  intro W base args ds gs before hval0 hW hcnd _
  have hval : ∀ (j : Nat) t v, Try.f4.params[j]? = some t → args[j]? = some v → Value.okWide Try.prog W .any base t v := hval0
  have hW' := hW
  obtain ⟨p, q, hA0, hV, rfl, hfz, hnd⟩ := hW
  have hA : DataW.TrodAll enc Try.prog W 0 (fun _ => true) true Try.f4.params.toList args.toList ds p := hA0
  rw [Try.params4] at hA hval
  obtain ⟨v0, vs0, d0, ds0, p0, q0, hargs, rfl, rfl, h0, r0⟩ := trodAll_cons hA
  obtain ⟨rfl, rfl, rfl⟩ := trodAll_nil r0
  obtain rfl : args = #[v0] := by cases args; simp_all
  obtain ⟨rfl, rfl⟩ := trodVars_none hV
  obtain ⟨a0, len0, cap0, rfl⟩ := okWide_slice Try.underlying22 (hval 0 22 v0 rfl rfl)
  have k0 := h0
  have lt0 : ∀ x ∈ p0, x.block < W.heap.size := by obtain ⟨m, hm⟩ := k0; exact DataW.trod_lt m _ _ _ hm
  obtain ⟨w0, n0⟩ := openBts h0 lt0
  clear hA0 hval0
  refine (walk a0 len0 cap0 W w0 n0).mono fun e W' ⟨he, bel⟩ => ?_
  subst he
  exact ⟨_, rfl, _, _, _, [], _, [], hW', trodAll_mk1 (shut_bool Try.underlying4 _), (trodAll_cons_mk (Below.trod laidOut (by kernel_rfl) (of_decide_eq_true (by kernel_rfl)) k0 bel lt0) trodAll_mk0), rfl, bel.frame _, fun h => by cases h⟩

theorem over : Rows.fnMatchesRow.holds Try.pinned (OpenSpec.ofChange Rows.fnMatchesSpec) :=
  OpenClaim.holds_of_wide 4 Try.f4 rfl rfl rfl rfl rfl rfl rfl ⟨rfl, rfl, rfl, rfl, rfl⟩ rfl rfl rfl rfl rfl (by kernel_rfl) Try.func4 (by kernel_rfl)
    (of_decide_eq_true (by kernel_rfl)) (by unfold Func.isWrapper; first | (rw [if_pos (by decide +kernel)]; kernel_rfl) | (rw [if_neg (by decide +kernel)]; exact ⟨rfl, rfl⟩))
    (fun os started H enc _ => lifted os started H enc)

theorem proved : Rows.FnMatchesSaid := over
end Go.Proofs.Ytbmokagmpdgidaa.MtF
namespace Go.Proofs.Ytbmokagmpdgidaa
theorem fnMatches_proved : Rows.FnMatchesSaid := MtF.proved
end Go.Proofs.Ytbmokagmpdgidaa
