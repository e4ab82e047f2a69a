/- Proved: at every code FnStoreMerges returns true (two stores put together, in either order, come to the same and have what both had). No condition: FnStoreMergesSaid itself. -/
import Derived.Test.YtepbkaidlffaiabRows
import Derived.Test.YtepbkaidlffaiabLemQ
import Derived.Test.YtepbkaidlffaiabStrsQ
import Derived.Test.YtepbkaidlffaiabMarksQ
import Derived.Test.YtepbkaidlffaiabDTabQ
import Derived.Test.YtepbkaidlffaiabOwnQ
import Derived.Test.YtepbkaidlffaiabFrQ
import Derived.Test.YtepbkaidlffaiabInQ
import Derived.Test.YtepbkaidlffaiabHkTQ
import Derived.Test.YtepbkaidlffaiabIdMQ
import Derived.Test.YtepbkaidlffaiabObLQ
import Derived.Test.YtepbkaidlffaiabSfCQ
import Derived.Test.YtepbkaidlffaiabGtSQ
import Derived.Test.YtepbkaidlffaiabGoCQ
import Derived.Test.YtepbkaidlffaiabPuLQ
import Derived.Test.YtepbkaidlffaiabPuSQ
import Derived.Test.YtepbkaidlffaiabPuPQ
import Derived.Test.YtepbkaidlffaiabMsLQ
import Derived.Test.YtepbkaidlffaiabMsCQ
import Derived.Test.YtepbkaidlffaiabMsIQ
import Derived.Test.YtepbkaidlffaiabDrawQ
import Derived.Test.YtepbkaidlffaiabDraw12Q
import Derived.Test.YtepbkaidlffaiabDraw13Q
import Derived.WalkKit
import Derived.ProofKit
import Derived.OpenShut
import Derived.Below
import Derived.Carry
import Derived.Laws.Cover1
import Derived.Deep.QuietTactic
import Derived.BigQuiet
import Derived.Deep.RegionWith
import Derived.Deep.CutRange
import Derived.Deep.RegionHeld
namespace Go.Proofs.Ytepbkaidlffaiab.SmF
open Go.ChangeShapes Go.WideShapes Go.ChangeAt Go.RowKit

theorem lwBig (a : Option Addr) (n cap : Nat) (w : World) : Calls Try.prog 9 #[.slice a n cap] w fun e w' => e = .returned (.bool (decide ((1048576 : Int) < (n : Int)))) ∧ w' = w := by
  go_enter Try.func9, Try.ntmps9
  go_wp2
  go_ret
  exact ⟨rfl, rfl⟩
theorem zc {w w' : World} {b o : Nat} {v : Value} (h : Below w.heap.size w w') (hc : w.cell? ⟨b, o, none⟩ = some v) : w'.cell? ⟨b, o, none⟩ = some v := (Fr.ofBelow (lo := 0) (hi := 0) h).cell hc (.inr (Nat.zero_le _))
theorem small_of {l : List Ob} (h : SmO l) : SmallO l ∧ l.length ≤ 1048576 := ⟨fun o ho => by have := h.2 o ho; omega, by have := h.1; omega⟩
theorem smallL {a b : List Ob} (ha : SmO a) (hb : SmO b) (h : msR a b = 0) : SmallO (msL a b) ∧ (msL a b).length ≤ 1048576 := by
  obtain ⟨h1, h2, h3, h4, h5, h6, h7, h8⟩ := sm_all h
  have hm := (ms_m h1 h2).2
  have hz := (ms_m h1 h2).1
  rw [h] at hz
  obtain ⟨_, r2⟩ := mg_some b a (msL a b) (asc_of h1) (sf_good h1) (sf_good h2) (by rw [hm, hz])
  refine ⟨fun o ho => ?_, by have := (sf_zero h5).1; omega⟩
  rcases (r2 o).1 ho with q | q
  · exact (small_of ha).1 o q
  · exact (small_of hb).1 o q
set_option maxRecDepth 20000 in
set_option maxHeartbeats 4000000 in
theorem walk (a : Option Addr) (n cap : Nat) (w : World) (h : Bts w a n) (_hm : n ≤ 9223372036854775807) :
    Calls Try.prog 8 #[.slice a n cap] w fun e w' => e = .returned (.bool true) ∧ Below w.heap.size w w' := by
  by_cases hbig : (1048576 : Int) < (n : Int)
  · go_enter Try.func8, Try.ntmps8
    go_wp2_with (go_at_call 9; refine (lwBig _ _ _ _).mono ?_; rintro e w' ⟨rfl, rfl⟩)
    go_ret
    exact ⟨rfl, Below.refl _ _⟩
  go_enter Try.func8, Try.ntmps8
  go_wp2_with fail
  refine (lwBig _ _ _ _).mono ?_; rintro e w ⟨rfl, rfl⟩
  go_wp2_with fail
  refine (drawMergeStores a n cap _ h (by omega)).mono ?_; rintro e w1 ⟨g1, c1, l1, g2, c2, l2, rfl, O1, O2, m1, m2, b1⟩
  clear h
  obtain ⟨q1, q2⟩ := small_of m1
  obtain ⟨q3, q4⟩ := small_of m2
  have hM := fun w p q => implMergeStores (some ⟨g1, 0, none⟩) c1 (some ⟨g2, 0, none⟩) c2 l1 l2 w p q q1 q2 q3 q4
  have hN := fun w p q => implMergeStores (some ⟨g2, 0, none⟩) c2 (some ⟨g1, 0, none⟩) c1 l2 l1 w p q q3 q4 q1 q2
  have hS := fun w p q => specMergeStores g1 0 c1 (some ⟨g2, 0, none⟩) c2 l1 l2 w p q q1 q2 q3 q4
  go_wp2_with fail
  refine (hM _ O1 O2).mono ?_; rintro e w2 ⟨v2, rfl, o2, b2⟩
  obtain ⟨ra, rc, er⟩ := shapeO5 o2
  subst er
  by_cases h0 : msR l1 l2 = 0
  · obtain ⟨k1, k2, k3, k4, k5, k6, k7, k8⟩ := sm_all h0
    obtain ⟨s1, s2⟩ := smallL m1 m2 h0
    rw [h0]
    rw [k3, k4] at hN
    obtain ⟨L, hL⟩ : ∃ L, msL l1 l2 = L := ⟨_, rfl⟩
    rw [hL] at o2 k5 k6 k7 k8 s1 s2 hN ⊢
    have hF := fun (a3 : Option Addr) (c3 : Nat) w p => implStoreFault a3 c3 L w p s1 s2
    rw [k5] at hF
    have hG := fun (a3 : Option Addr) (c3 : Nat) kd id w p => implGetObject a3 c3 L kd id w p s1 s2
    have hgo : ∀ o ∈ l2, goR L o.2.1 o.1 = 0 ∧ goO L o.2.1 o.1 = o := fun o ho => by
      have hg := k6 o ho
      have hin := (sf_good k2 o ho).1
      have e1 : goR L o.2.1 o.1 = 0 := by unfold goR; rw [if_pos k5, if_pos hin, hg]; rfl
      exact ⟨e1, by unfold goO; rw [if_pos e1, hg]; rfl⟩
    clear hM hS k1 k2 k3 k4 k5 k6 hL h0 q1 q2 q3 q4 s1 m1
    have hl2 : l2.length ≤ 201 := m2.1
    have hLn : L.length ≤ 1048576 := s2
    clear m2 s2
    obtain ⟨W3, hW3⟩ : ∃ W, w2.alloc (.cells #[.int .i64 0, .string ByteArray.empty, .slice ra L.length rc] 60) = W := ⟨_, rfl⟩
    have R3 : Rs W3 w2.heap.size [.int .i64 0, .string ByteArray.empty, .slice ra L.length rc] := by rw [← hW3]; exact Rs.new _ _ _
    have d3 : Below w2.heap.size w2 W3 := by rw [← hW3]; exact allocBelow _ _
    have c3 : Below w1.heap.size w1 W3 := by rw [← hW3]; exact b2.alloc b2.size _
    have P3 : OB W3.heap.size W3 ra L := ((OB.of o2).below d3).mono d3.size
    have A3 : OB W3.heap.size W3 (some ⟨g1, 0, none⟩) l1 := (O1.below c3).mono c3.size
    have C3 : OB W3.heap.size W3 (some ⟨g2, 0, none⟩) l2 := (O2.below c3).mono c3.size
    have B3 := b1.trans (c3.mono b1.size)
    obtain ⟨p, hp⟩ : ∃ p, w2.heap.size = p := ⟨_, rfl⟩
    have r0 := R3 0 _ rfl
    have r2 := R3 2 _ rfl
    rw [hp] at r0 r2
    clear b1 b2 c3 d3 o2 O1 O2 R3
    go_wp2_with fail
    refine (hN _ C3 A3).mono ?_; rintro e w4 ⟨v4, rfl, o4, b4⟩
    clear hW3
    obtain ⟨ta, tc, et⟩ := shapeO5 o4
    subst et
    obtain ⟨W5, hW5⟩ : ∃ W, w4.alloc (.cells #[.int .i64 0, .string ByteArray.empty, .slice ta L.length tc] 60) = W := ⟨_, rfl⟩
    have R5 : Rs W5 w4.heap.size [.int .i64 0, .string ByteArray.empty, .slice ta L.length tc] := by rw [← hW5]; exact Rs.new _ _ _
    have d5 : Below w4.heap.size w4 W5 := by rw [← hW5]; exact allocBelow _ _
    have c5 : Below W3.heap.size W3 W5 := by rw [← hW5]; exact b4.alloc b4.size _
    have T5 : OB W5.heap.size W5 ta L := ((OB.of o4).below d5).mono d5.size
    have P5 : OB W5.heap.size W5 ra L := (P3.below c5).mono c5.size
    have C5 : OB W5.heap.size W5 (some ⟨g2, 0, none⟩) l2 := (C3.below c5).mono c5.size
    have B5 := B3.trans (c5.mono B3.size)
    have r0 := zc c5 r0
    have r2 := zc c5 r2
    obtain ⟨p5, hp5⟩ : ∃ p, w4.heap.size = p := ⟨_, rfl⟩
    have t0 := R5 0 _ rfl
    have t2 := R5 2 _ rfl
    rw [hp5] at t0 t2
    have nn : ((L.length : Int) != (L.length : Int)) = false := by simp
    clear b4 c5 d5 o4 R5 P3 A3 C3 B3 hN
    go_wp2_with fail
    refine (hF _ _ _ P5).mono ?_; rintro e w6 ⟨rfl, b6⟩
    clear hW5
    have P6 : OB w6.heap.size w6 ra L := (P5.below b6).mono b6.size
    have T6 : OB w6.heap.size w6 ta L := (T5.below b6).mono b6.size
    have C6 : OB w6.heap.size w6 (some ⟨g2, 0, none⟩) l2 := (C5.below b6).mono b6.size
    have B6 := B5.trans (b6.mono B5.size)
    have r2 := zc b6 r2
    have t2 := zc b6 t2
    clear b6 P5 T5 C5 B5 hF r0 t0
    go_wp2
    go_loopw [7] (fun vi wr => ∃ k : Nat, k ≤ L.length ∧ vi = .int .i64 (k : Int) ∧ ∃ nq, wr = w6.drewN nq) (fun vi _ => L.length - (intOf vi).toNat)
    case atStart => exact ⟨0, Nat.zero_le _, rfl, 0, rfl⟩
    case round =>
      obtain ⟨k, hk, rfl, nr, hwr⟩ := hrel
      have rr2 : wr.cell? ⟨p, 2, none⟩ = some (.slice ra L.length rc) := by rw [hwr]; exact r2
      have tt2 : wr.cell? ⟨p5, 2, none⟩ = some (.slice ta L.length tc) := by rw [hwr]; exact t2
      by_cases hlt : k < L.length
      · have q : (k : Int) < (L.length : Int) := by omega
        obtain ⟨gr, off, er, _, x0, x1, x2⟩ := P6 k hlt
        obtain ⟨gt', off', et, _, y0, y1, y2⟩ := T6 k hlt
        subst er et
        have HW : Hid (wr = w6.drewN nr) := hwr
        obtain ⟨C, hCe⟩ : ∃ C, L.getD k onil = C := ⟨_, rfl⟩
        obtain ⟨u0, u1, u2⟩ := C
        rw [hCe] at x0 x1 x2 y0 y1 y2
        simp only [] at x0 x1 x2 y0 y1 y2
        have x0' : wr.cell? ⟨gr, off + k * 3, none⟩ = some (.string u0) := by rw [hwr]; exact x0
        have x1' : wr.cell? ⟨gr, off + k * 3 + 1, none⟩ = some (.int .i64 u1) := by rw [hwr]; exact x1
        have x2' : wr.cell? ⟨gr, off + k * 3 + 2, none⟩ = some (.string u2) := by rw [hwr]; exact x2
        have y0' : wr.cell? ⟨gt', off' + k * 3, none⟩ = some (.string u0) := by rw [hwr]; exact y0
        have y1' : wr.cell? ⟨gt', off' + k * 3 + 1, none⟩ = some (.int .i64 u1) := by rw [hwr]; exact y1
        have y2' : wr.cell? ⟨gt', off' + k * 3 + 2, none⟩ = some (.string u2) := by rw [hwr]; exact y2
        clear hCe x0 x1 x2 y0 y1 y2 hwr P6 T6 C6 B6 r2 t2 hG hgo hl2 k7 k8
        have hbs0 : (u0.toList == u0.toList) = true := beqS u0
        have hbs2 : (u2.toList == u2.toList) = true := beqS u2
        have hbi : (u1 == u1) = true := by simp
        go_wp2
        go_quiet (fail)
        go_wp2
        go_roundw
        case rel => exact ⟨k + 1, by omega, by go_num, nr + nq, by rw [HW.out, World.drewN_drewN]⟩
        case measure => first | (simp [intOf]; omega) | simp [intOf]
      · have q : ¬ (k : Int) < (L.length : Int) := by omega
        have bq : Below w6.heap.size w6 wr := by rw [hwr]; exact below_drewN' (Below.refl _ _) nr
        have P7 : OB wr.heap.size wr ra L := (P6.below bq).mono bq.size
        have C7 : OB wr.heap.size wr (some ⟨g2, 0, none⟩) l2 := (C6.below bq).mono bq.size
        have B7 := B6.trans (bq.mono B6.size)
        clear bq hwr P6 T6 C6 B6 r2 t2 tt2 hlt hk
        obtain ⟨V, hV⟩ : ∃ V, V = wr := ⟨_, rfl⟩
        subst hV
        go_wp2
        go_loopw [8] (fun vi wr => ∃ k : Nat, k ≤ l2.length ∧ vi = .int .i64 (k : Int) ∧ Below V.heap.size V wr) (fun vi _ => l2.length - (intOf vi).toNat)
        case atStart => exact ⟨0, Nat.zero_le _, rfl, Below.refl _ _⟩
        case round =>
          obtain ⟨k, hk, rfl, hbel⟩ := hrel
          have hsz := hbel.size
          have P8 : OB wr.heap.size wr ra L := (P7.below hbel).mono hsz
          have s2 := zc hbel rr2
          by_cases hlt : k < l2.length
          · have q : (k : Int) < (l2.length : Int) := by omega
            obtain ⟨gg, off, eg, _, x0, x1, x2⟩ := (C7.below hbel) k hlt
            simp only [Option.some.injEq, Addr.mk.injEq, and_true] at eg
            obtain ⟨rfl, rfl⟩ := eg
            obtain ⟨hgr, hgO⟩ := hgo (l2.getD k onil) (ob_mem l2 k hlt)
            have hGk := fun w p => hG ra rc (l2.getD k onil).2.1 (l2.getD k onil).1 w p
            rw [hgr, hgO] at hGk
            obtain ⟨C, hCe⟩ : ∃ C, l2.getD k onil = C := ⟨_, rfl⟩
            obtain ⟨u0, u1, u2⟩ := C
            rw [hCe] at x0 x1 x2
            simp only [hCe] at hGk
            simp only [Nat.zero_add] at x0 x1 x2
            clear hCe hgr hgO hG hgo P7 C7 B7 rr2
            have fl1 : ∀ w, (Instr.field 65 (.agg #[.int .i64 0, .string u0, .int .i64 u1, .string u2]) 1).run Try.prog w = .ok (.agg #[.string u0, .int .i64 u1, .string u2]) w := fun w => by kernel_rfl
            have fl2 : ∀ w, (Instr.field 63 (.agg #[.string u0, .int .i64 u1, .string u2]) 2).run Try.prog w = .ok (.string u2) w := fun w => by kernel_rfl
            have hbs2 : (u2.toList == u2.toList) = true := beqS u2
            go_wp2
            go_cut [94] from 74 to 94 (fun s wx => s = .bool false ∧ Below wr.heap.size wr wx)
            case first =>
              have PD : OB wr.drew.heap.size wr.drew ra L := P8
              clear hbel hsz k7 k8 hl2 hLn
              go_region_held (fun w' => w'.cell? ⟨p, 2, none⟩ = some (.slice ra L.length rc) ∧ w'.cell? ⟨g2, k * 3, none⟩ = some (.string u0) ∧ w'.cell? ⟨g2, k * 3 + 1, none⟩ = some (.int .i64 u1) ∧ w'.cell? ⟨g2, k * 3 + 2, none⟩ = some (.string u2)) (first | with_reducible exact ⟨s2a, x0a, x1a, x2a⟩ | with_reducible exact ⟨s2, x0, x1, x2⟩ | exact ⟨s2a, x0a, x1a, x2a⟩ | exact ⟨s2, x0, x1, x2⟩)
                ((go_at_call 30; refine (hGk _ PD).mono ?_; rintro e w9 ⟨rfl, b9⟩; have b9' : Below wr.heap.size wr w9 := (below_drew (Below.refl _ _)).trans b9; have s2a := zc b9' s2; have x0a := zc b9' x0; have x1a := zc b9' x1; have x2a := zc b9' x2))
              all_goals (go_wp2_with fail; go_meet; exact ⟨rfl, b9'⟩)
            case rest =>
            obtain ⟨rfl, hB⟩ := hcut
            have hb2 := hbel.trans (hB.mono hsz)
            clear hB P8 x0 x1 x2 s2
            go_wp2
            go_roundw
            case rel => exact ⟨k + 1, by omega, by go_num, hb2⟩
            case measure => first | (simp [intOf]; omega) | simp [intOf]
          · have q : ¬ (k : Int) < (l2.length : Int) := by omega
            have v7 : (l1.length : Int) ≤ (L.length : Int) := by omega
            have v8 : (l2.length : Int) ≤ (L.length : Int) := by omega
            have BE := B7.trans (hbel.mono B7.size)
            clear P8 P7 C7 B7 hbel rr2
            go_wp2
            go_ret
            exact ⟨rfl, BE⟩
  · have q0 : (msR l1 l2 != 0) = true := by simp [h0]
    obtain ⟨K, hK⟩ : ∃ K, msR l1 l2 = K := ⟨_, rfl⟩
    have hS' : ∀ w, OB w.heap.size w (some ⟨g1, 0, none⟩) l1 → OB w.heap.size w (some ⟨g2, 0, none⟩) l2 → Calls Try.prog 38 #[.slice (some ⟨g1, 0, none⟩) l1.length c1, .slice (some ⟨g2, 0, none⟩) l2.length c2] w fun e w' => (∃ v1, e = .returned (.agg #[.int .i64 K, .string ByteArray.empty, v1])) ∧ Below w.heap.size w w' := fun w p q => (hS w p q).mono fun e w' ⟨v1, he, _, hb⟩ => ⟨⟨v1, by rw [he, hK]⟩, hb⟩
    rw [hK] at q0 ⊢
    have kk : (K == K) = true := by simp
    have flf : ∀ s1 v1 w, (Instr.field 60 (.agg #[.int .i64 K, .string s1, v1]) 0).run Try.prog w = .ok (.int .i64 K) w := fun s1 v1 w => by kernel_rfl
    obtain ⟨L, hL⟩ : ∃ L, msL l1 l2 = L := ⟨_, rfl⟩
    rw [hL] at o2 ⊢
    obtain ⟨W3, hW3⟩ : ∃ W, w2.alloc (.cells #[.int .i64 K, .string ByteArray.empty, .slice ra L.length rc] 60) = W := ⟨_, rfl⟩
    have R3 : Rs W3 w2.heap.size [.int .i64 K, .string ByteArray.empty, .slice ra L.length rc] := by rw [← hW3]; exact Rs.new _ _ _
    have c3 : Below w1.heap.size w1 W3 := by rw [← hW3]; exact b2.alloc b2.size _
    have A3 : OB W3.heap.size W3 (some ⟨g1, 0, none⟩) l1 := (O1.below c3).mono c3.size
    have C3 : OB W3.heap.size W3 (some ⟨g2, 0, none⟩) l2 := (O2.below c3).mono c3.size
    have B3 := b1.trans (c3.mono b1.size)
    obtain ⟨p, hp⟩ : ∃ p, w2.heap.size = p := ⟨_, rfl⟩
    have r0 := R3 0 _ rfl
    rw [hp] at r0
    clear hM hN hS b1 b2 c3 o2 O1 O2 R3 h0 hK hL q1 q2 q3 q4 m1 m2
    go_upto_region 6 with fail
    go_cut [2] from 22 to 28 (fun s wx => s = .bool true ∧ Below W3.heap.size W3 wx)
    case first =>
      have BD : Below W3.heap.size W3 W3.drew := (Below.refl _ _).drew
      have AD : OB W3.drew.heap.size W3.drew (some ⟨g1, 0, none⟩) l1 := A3
      have CD : OB W3.drew.heap.size W3.drew (some ⟨g2, 0, none⟩) l2 := C3
      clear A3 C3 B3 hbig hW3 hp
      go_region_held (fun w' => w'.cell? ⟨p, 0, none⟩ = some (.int .i64 K)) (first | with_reducible exact r0a | exact r0)
        ((go_at_call 38; refine (hS' _ AD CD).mono ?_; rintro e wa ⟨⟨v1, rfl⟩, ba⟩; have r0a := zc ba r0; have Bt1 := below_step BD BD.size ba))
      all_goals (go_wp2_with fail; go_meet; exact ⟨rfl, Bt1⟩)
    case rest =>
    obtain ⟨rfl, b⟩ := hcut
    have BE := B3.trans (b.mono B3.size)
    clear b
    go_wp2_with fail
    go_ret
    exact ⟨rfl, BE⟩

set_option linter.unusedVariables false
theorem laidOut : laidOutB Try.prog = true := by kernel_rfl
theorem own : ownKnob Try.prog.godebug = none := by kernel_rfl
set_option maxRecDepth 100000 in
theorem lifted (os : Os) (started : os.Started) (H : Type) (enc : TypeId × Value → H) :
    ReturnsInHanded {} Try.checked os 8 .any (Rows.fnStoreMergesSpec.pre6 enc Try.prog Try.f8 Rows.fnStoreMergesRow.domain false) (Rows.fnStoreMergesSpec.post enc Try.prog Try.f8 false true false false) := by
  refine returnsInHanded_of_change (C := Try.checked) own started (by kernel_rfl) Try.func8
    (ChangeSpec.witness6 (enc := enc) (C := Try.checked) false ⟨#[], #[.slice none 0 0], []⟩ 8 (by kernel_rfl) (by kernel_rfl) (by kernel_rfl) (by kernel_rfl)) ?_
  intro W base args ds gs before hval0 hW hcnd _
  have hval : ∀ (j : Nat) t v, Try.f8.params[j]? = some t → args[j]? = some v → Value.okWide Try.prog W .any base t v := hval0
  have hW' := hW
  obtain ⟨p, q, hA0, hV, rfl, hfz, hnd⟩ := hW
  have hA : DataW.TrodAll enc Try.prog W 0 (fun _ => true) true Try.f8.params.toList args.toList ds p := hA0
  rw [Try.params8] at hA hval
  obtain ⟨v0, vs0, d0, ds0, p0, q0, hargs, rfl, rfl, h0, r0⟩ := trodAll_cons hA
  obtain ⟨rfl, rfl, rfl⟩ := trodAll_nil r0
  obtain rfl : args = #[v0] := by cases args; simp_all
  obtain ⟨rfl, rfl⟩ := trodVars_none hV
  obtain ⟨a0, len0, cap0, rfl⟩ := okWide_slice Try.underlying22 (hval 0 22 v0 rfl rfl)
  have k0 := h0
  have lt0 : ∀ x ∈ p0, x.block < W.heap.size := by obtain ⟨m, hm⟩ := k0; exact DataW.trod_lt m _ _ _ hm
  obtain ⟨w0, n0⟩ := openBts h0 lt0
  clear hA0 hval0
  refine (walk a0 len0 cap0 W w0 n0).mono fun e W' ⟨he, bel⟩ => ?_
  subst he
  exact ⟨_, rfl, _, _, _, [], _, [], hW', trodAll_mk1 (shut_bool Try.underlying4 _), (trodAll_cons_mk (Below.trod laidOut (by kernel_rfl) (of_decide_eq_true (by kernel_rfl)) k0 bel lt0) trodAll_mk0), rfl, bel.frame _, fun h => by cases h⟩

theorem over : Rows.fnStoreMergesRow.holds Try.pinned (OpenSpec.ofChange Rows.fnStoreMergesSpec) :=
  OpenClaim.holds_of_wide 8 Try.f8 rfl rfl rfl rfl rfl rfl rfl ⟨rfl, rfl, rfl, rfl, rfl⟩ rfl rfl rfl rfl rfl (by kernel_rfl) Try.func8 (by kernel_rfl)
    (of_decide_eq_true (by kernel_rfl)) (by unfold Func.isWrapper; first | (rw [if_pos (by decide +kernel)]; kernel_rfl) | (rw [if_neg (by decide +kernel)]; exact ⟨rfl, rfl⟩))
    (fun os started H enc _ => lifted os started H enc)

theorem proved : Rows.FnStoreMergesSaid := over
end Go.Proofs.Ytepbkaidlffaiab.SmF
namespace Go.Proofs.Ytepbkaidlffaiab
theorem fnStoreMerges_proved : Rows.FnStoreMergesSaid := SmF.proved
end Go.Proofs.Ytepbkaidlffaiab
