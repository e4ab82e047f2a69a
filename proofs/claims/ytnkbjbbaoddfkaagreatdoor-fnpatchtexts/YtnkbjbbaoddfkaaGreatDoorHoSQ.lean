/- The contract of spec.l3Hunk. No statement is proved here. -/
import Derived.Test.YtnkbjbbaoddfkaaGreatDoorRows
import Derived.Test.YtnkbjbbaoddfkaaGreatDoorLemQ
import Derived.Test.YtnkbjbbaoddfkaaGreatDoorDTabQ
import Derived.Test.YtnkbjbbaoddfkaaGreatDoorWvCQ
import Derived.Test.YtnkbjbbaoddfkaaGreatDoorComQ
import Derived.Test.YtnkbjbbaoddfkaaGreatDoorPairsQ
import Derived.Test.YtnkbjbbaoddfkaaGreatDoorCoCQ
import Derived.Test.YtnkbjbbaoddfkaaGreatDoorHkLQ
import Derived.Test.YtnkbjbbaoddfkaaGreatDoorHkTQ
import Derived.Test.YtnkbjbbaoddfkaaGreatDoorHfCQ
import Derived.Test.YtnkbjbbaoddfkaaGreatDoorHnLQ
import Derived.Test.YtnkbjbbaoddfkaaGreatDoorHrRQ
import Derived.Test.YtnkbjbbaoddfkaaGreatDoorRvLQ
import Derived.Test.YtnkbjbbaoddfkaaGreatDoorHoPQ
import Derived.WalkKit
import Derived.ProofKit
import Derived.Below
import Derived.WalkSpells
import Derived.Maps.AppendAt
import Derived.Deep.RegionLaw
import Derived.Deep.CutRange
namespace Go.Proofs.YtnkbjbbaoddfkaaGreatDoor
open Go.ChangeShapes Go.WideShapes Go.ChangeAt Go.RowKit

set_option maxRecDepth 20000 in
set_option maxHeartbeats 40000000 in
theorem l3Hunk (cx : Int) (hc0 : 0 ≤ cx) (hc5 : cx ≤ 5) (a1 a2 a3 : Option Addr) (c1 c2 c3 : Nat) (xs ys : List ByteArray) (cs : List Chg) (w : World) (h1 : SS w a1 xs) (h2 : SS w a2 ys) (h3 : CB w.heap.size w a3 cs) (k1 : xs.length ≤ c1) (k2 : ys.length ≤ c2)
    (hn : xs.length ≤ 100) (hm : ys.length ≤ 100) (z1 : ∀ x ∈ xs, x.size ≤ 2000) (z2 : ∀ x ∈ ys, x.size ≤ 2000) (hw : CW xs.length ys.length cs) (h0 : 0 < cs.length) (hl : cs.length ≤ 101) :
    Calls Tryz.prog 54 #[.slice a1 xs.length c1, .slice a2 ys.length c2, .slice a3 cs.length c3, .int .i64 cx] w fun e w' => HkPost (hunkOf xs ys cx cs) w e w' := by
  obtain ⟨W1, hW1⟩ : ∃ W, w.alloc (.cells #[.int .i64 0, .int .i64 0, .slice none 0 0] 35) = W := ⟨_, rfl⟩
  have r1 : Rf W1 w.heap.size [.int .i64 0, .int .i64 0, .slice none 0 0] := by rw [← hW1]; exact Rf.new _ _ _
  have b1 : Below w.heap.size w W1 := by rw [← hW1]; exact allocBelow _ _
  have ZZ1 : Hid (W1.heap.size = w.heap.size + 1) := by show _ = _; rw [← hW1]; simp
  obtain ⟨g, off, e, hg, d0, d1, d2, d3⟩ := (h3.below b1) 0 h0
  have bd0 := hw.bd 0 h0
  have hA0 : hunkA cx cs = (cs.getD 0 (0, 0, 0, 0)).1 - min cx (cs.getD 0 (0, 0, 0, 0)).1 := rfl
  have hB0 : hunkB cx cs = (cs.getD 0 (0, 0, 0, 0)).2.2.1 - min cx (cs.getD 0 (0, 0, 0, 0)).1 := rfl
  have hatk := atK_bd hw hc0 h0
  obtain ⟨g9, off9, e9, hg9, p0, p1, p2, p3⟩ := (h3.below b1) (cs.length - 1) (by omega)
  have bdl := hw.bd (cs.length - 1) (by omega)
  have hatl : ∀ a0, atK a0 cs cs.length = (cs.getD (cs.length - 1) (0, 0, 0, 0)).1 + (cs.getD (cs.length - 1) (0, 0, 0, 0)).2.1 := by
    intro a0
    obtain ⟨n, hn'⟩ : ∃ n, cs.length = n + 1 := ⟨cs.length - 1, by omega⟩
    rw [hn', Nat.add_sub_cancel]; rfl
  obtain ⟨C, hCe⟩ : ∃ C, cs.getD 0 (0, 0, 0, 0) = C := ⟨_, rfl⟩
  obtain ⟨x0, x1, x2, x3⟩ := C
  rw [hCe] at d0 d1 d2 d3 bd0 hA0 hB0
  simp only [Nat.zero_mul, Nat.add_zero] at d0 d1 d2 d3 bd0 hA0 hB0
  rw [e] at e9
  simp only [Option.some.injEq, Addr.mk.injEq, and_true] at e9
  obtain ⟨rfl, rfl⟩ := e9
  subst e
  obtain ⟨D, hDe⟩ : ∃ C, cs.getD (cs.length - 1) (0, 0, 0, 0) = C := ⟨_, rfl⟩
  obtain ⟨y0, y1, y2, y3⟩ := D
  rw [hDe] at p0 p1 p2 p3 bdl hatl
  simp only [] at p0 p1 p2 p3 bdl hatl
  obtain ⟨N1, hN1⟩ : ∃ N, cs.length = N + 1 := ⟨cs.length - 1, by omega⟩
  have hN2 : (cs.length : Int) - 1 = (N1 : Int) := by omega
  have hN3 : cs.length - 1 = N1 := by omega
  have HATL : Hid (∀ a0, atK a0 cs cs.length = y0 + y1) := hatl
  have hye : 0 ≤ y0 + y1 ∧ y0 + y1 ≤ 100 ∧ 0 ≤ y0 ∧ 0 ≤ y1 := by omega
  obtain ⟨hye1, hye2, hye3, hye4⟩ := hye
  rw [hN3] at p0 p1 p2 p3
  have hNlt : N1 < cs.length := by omega
  clear hCe hDe hatl hN3 hN1
  obtain ⟨HA, hHA⟩ : ∃ A, hunkA cx cs = A := ⟨_, rfl⟩
  obtain ⟨HBv, hHB⟩ : ∃ A, hunkB cx cs = A := ⟨_, rfl⟩
  have HHA : Hid (hunkA cx cs = HA) := hHA
  have HHB : Hid (hunkB cx cs = HBv) := hHB
  rw [hHA] at hA0 hatk
  rw [hHB] at hB0
  obtain ⟨M, hM⟩ : ∃ M, min cx x0 = M := ⟨_, rfl⟩
  have hMb : 0 ≤ M ∧ M ≤ 5 ∧ M ≤ x0 := by omega
  obtain ⟨hM1, hM2, hM3⟩ := hMb
  rw [hM] at hA0 hB0
  have pa0 := fun o => (Fr.ofAlloc (lo := 0) (hi := 0) W1 o).cell p0 (.inr (Nat.zero_le _))
  have pa1 := fun o => (Fr.ofAlloc (lo := 0) (hi := 0) W1 o).cell p1 (.inr (Nat.zero_le _))
  have pa2 := fun o => (Fr.ofAlloc (lo := 0) (hi := 0) W1 o).cell p2 (.inr (Nat.zero_le _))
  have pa3 := fun o => (Fr.ofAlloc (lo := 0) (hi := 0) W1 o).cell p3 (.inr (Nat.zero_le _))
  have hLM := fun w => l1Min cx x0 w
  rw [hM] at hLM
  go_enter Tryz.func54, Tryz.ntmps54
  go_wp2_with fail
  refine (hLM _).mono ?_; rintro e w' ⟨rfl, rfl⟩
  go_wp2_with fail
  rw [← hA0, ← hB0]
  obtain ⟨W2, hW2⟩ : ∃ W, ((W1.alloc (.cells #[.int .i64 x0, .int .i64 x1, .int .i64 x2, .int .i64 x3] 94)).alloc (.cells #[.int .i64 y0, .int .i64 y1, .int .i64 y2, .int .i64 y3] 94)).alloc (.cells #[.int .i64 HA, .int .i64 HBv, .slice none 0 0] 35) = W := ⟨_, rfl⟩
  have R2 : Rf W2 (W1.heap.size + 1 + 1) [.int .i64 HA, .int .i64 HBv, .slice none 0 0] := by
    have := Rf.new ((W1.alloc (.cells #[.int .i64 x0, .int .i64 x1, .int .i64 x2, .int .i64 x3] 94)).alloc (.cells #[.int .i64 y0, .int .i64 y1, .int .i64 y2, .int .i64 y3] 94)) #[.int .i64 HA, .int .i64 HBv, .slice none 0 0] 35
    rw [hW2] at this
    simpa using this
  have B2 : Below w.heap.size w W2 := by
    rw [← hW2]
    exact ((b1.alloc b1.size _).alloc (by simp; have := b1.size; omega) _).alloc (by simp; have := b1.size; omega) _
  have Z2 : W2.heap.size = W1.heap.size + 1 + 1 + 1 := by rw [← hW2]; simp
  have HZ2 : Hid (W2.heap.size = W1.heap.size + 1 + 1 + 1) := Z2
  rw [hW2]
  have r2 : Rf W2 w.heap.size [.int .i64 0, .int .i64 0, .slice none 0 0] := by
    have b12 : Below W1.heap.size W1 W2 := by rw [← hW2]; exact (((allocBelow _ _).alloc (by simp) _).alloc (by simp; omega) _)
    exact r1.below (by have := ZZ1.out; omega) b12
  have S1 : SSB w.heap.size W2 a1 xs := h1.toB.below B2
  have S2 : SSB w.heap.size W2 a2 ys := h2.toB.below B2
  have S3 : CB w.heap.size W2 (some ⟨g, off, none⟩) cs := h3.below B2
  obtain ⟨p, hp⟩ : ∃ p, W1.heap.size + 1 + 1 = p := ⟨_, rfl⟩
  have hpw : w.heap.size < p := by have := ZZ1.out; omega
  rw [hp] at R2 HZ2 ⊢
  clear hW2 hW1 Z2 h1 h2 h3 d0 d1 d2 d3 r1 b1 hp ZZ1 hA0 hB0 hM hHA hHB hLM p0 p1 p2 p3 pa0 pa1 pa2 pa3
  go_loopw [14, 15] (fun va vk wr => ∃ (k : Nat) (u : Value), k ≤ cs.length ∧ vk = .int .i64 (k : Int) ∧ va = .int .i64 (atK HA cs k) ∧ Rf wr p [.int .i64 HA, .int .i64 HBv, u] ∧ wr.ownsRow (p + 1) 9 1 u (hlK xs ys HA cs k).length ((hlK xs ys HA cs k).map Value.string) ∧ Below p W2 wr) (fun _ vk _ => cs.length - (intOf vk).toNat)
  case atStart => exact ⟨0, .slice none 0 0, Nat.zero_le _, rfl, rfl, R2, ⟨rfl, .inl ⟨rfl, rfl⟩⟩, Below.refl _ _⟩
  case round =>
    obtain ⟨k, u, hk, rfl, rfl, hR, hu, hbel⟩ := hrel
    have hsz := hbel.size
    have hz2 := HZ2.out
    by_cases hlt : k < cs.length
    · have q : (k : Int) < (cs.length : Int) := by omega
      obtain ⟨g', off', e', hg', f0, f1, f2, f3⟩ := (S3.bQ hbel (by omega)) k hlt
      simp only [Option.some.injEq, Addr.mk.injEq, and_true] at e'
      obtain ⟨rfl, rfl⟩ := e'
      have bdk := hw.bd k hlt
      have hak := hatk k hk
      have hlen := hlK_length (xs := xs) (ys := ys) hw hn hm HA k hk
      have hsu := hlK_succ xs ys HA cs k
      have has := atK_succ HA cs k
      obtain ⟨C, hCe⟩ : ∃ C, cs.getD k (0, 0, 0, 0) = C := ⟨_, rfl⟩
      obtain ⟨q0, q1, q2, q3⟩ := C
      rw [hCe] at f0 f1 f2 f3 bdk hak hsu has
      simp only [] at f0 f1 f2 f3 bdk hak hsu has
      obtain ⟨hak0, hak1, hak2'⟩ := hak
      have hak2 := hak2' hlt
      obtain ⟨P, hP⟩ : ∃ P : Nat, atK HA cs k = (P : Int) := ⟨(atK HA cs k).toNat, by omega⟩
      obtain ⟨Y0, rfl⟩ : ∃ X : Nat, q0 = (X : Int) := ⟨q0.toNat, by omega⟩
      obtain ⟨Y1, rfl⟩ : ∃ X : Nat, q1 = (X : Int) := ⟨q1.toNat, by omega⟩
      obtain ⟨Y2, rfl⟩ : ∃ X : Nat, q2 = (X : Int) := ⟨q2.toNat, by omega⟩
      obtain ⟨Y3, rfl⟩ : ∃ X : Nat, q3 = (X : Int) := ⟨q3.toNat, by omega⟩
      rw [hP] at hsu hak0 hak1 hak2 ⊢
      rw [show ((Y0 : Int) + (Y1 : Int)) = ((Y0 + Y1 : Nat) : Int) by omega, show ((Y2 : Int) + (Y3 : Int)) = ((Y2 + Y3 : Nat) : Int) by omega, sg_nat, sg_nat, sg_nat] at hsu
      have HSU : Hid (hlK xs ys HA cs (k + 1) = hlK xs ys HA cs k ++ ((xs.drop P).take (Y0 - P)).map (mkL 32) ++ ((xs.drop Y0).take (Y0 + Y1 - Y0)).map (mkL 45) ++ ((ys.drop Y2).take (Y2 + Y3 - Y2)).map (mkL 43)) := hsu
      have HAS : Hid (atK HA cs (k + 1) = (Y0 : Int) + (Y1 : Int)) := has
      obtain ⟨T0, hT0⟩ : ∃ S, hlK xs ys HA cs k = S := ⟨_, rfl⟩
      have HT0 : Hid (hlK xs ys HA cs k = T0) := hT0
      rw [hT0] at hu hlen
      have g1' : (xs.drop P).take (Y0 - P) = (xs.drop P).take (Y0 - P) := rfl
      clear hsu has hP hCe hT0 hak2' g1'
      obtain ⟨W3, hW3⟩ : ∃ W, wr.alloc (.cells #[.int .i64 (Y0 : Int), .int .i64 (Y1 : Int), .int .i64 (Y2 : Int), .int .i64 (Y3 : Int)] 94) = W := ⟨_, rfl⟩
      have b3 : Below wr.heap.size wr W3 := by rw [← hW3]; exact allocBelow _ _
      have C3 : Rs W3 wr.heap.size [.int .i64 (Y0 : Int), .int .i64 (Y1 : Int), .int .i64 (Y2 : Int), .int .i64 (Y3 : Int)] := by rw [← hW3]; exact Rs.new _ _ _
      have z3 : wr.heap.size < W3.heap.size := by rw [← hW3]; simp
      obtain ⟨ua, uc, eu⟩ := shapeS hu
      subst eu
      have H3 : HS p wr.heap.size W2 W3 HA HBv (.slice ua T0.length uc) T0 [.int .i64 (Y0 : Int), .int .i64 (Y1 : Int), .int .i64 (Y2 : Int), .int .i64 (Y3 : Int)] :=
        ⟨hR.below (by omega) b3, (Fr.ofBelow (lo := 0) (hi := 0) b3).own hu (fun _ _ => .inr (Nat.zero_le _)), C3, hbel.trans (b3.mono (by omega)), by omega, z3, fun j hj => by have := (hu.lt j hj).2; omega⟩
      have hpq' : p < wr.heap.size := by omega
      have hpq : p ≠ wr.heap.size := by omega
      have hp2 : p ≤ W2.heap.size := by omega
      clear hu hR b3
      have z4 : wr.heap.size < W3.heap.size := H3.hq
      obtain ⟨E1, hE1⟩ : ∃ E, Y0 + Y1 = E := ⟨_, rfl⟩
      obtain ⟨E2, hE2⟩ : ∃ E, Y2 + Y3 = E := ⟨_, rfl⟩
      have hE1' : (Y0 : Int) + (Y1 : Int) = (E1 : Int) := by omega
      have hE2' : (Y2 : Int) + (Y3 : Int) = (E2 : Int) := by omega
      have w1 : E1 ≤ xs.length := by omega
      have w2 : E2 ≤ ys.length := by omega
      have w3 : Y0 ≤ E1 := by omega
      have w4' : Y2 ≤ E2 := by omega
      have hwr1 : IntKind.i64.wrap (E1 : Int) = (E1 : Int) := wrapId _ (by omega) (by omega)
      have hwr2 : IntKind.i64.wrap (E2 : Int) = (E2 : Int) := wrapId _ (by omega) (by omega)
      rw [hE1, hE2] at HSU
      rw [hE1'] at HAS
      clear hE1 hE2
      have v1 : Y0 ≤ c1 := by omega
      have v2 : P ≤ Y0 := by omega
      have v3 : E1 ≤ c1 := by omega
      have v4 : Y0 ≤ E1 := by omega
      have v5 : E2 ≤ c2 := by omega
      have v6 : Y2 ≤ E2 := by omega
      have e1 : (P : Int) ≤ (Y0 : Int) := by omega
      have e2 : (Y0 : Int) ≤ (xs.length : Int) := by omega
      have e5 : (Y0 : Int) ≤ (E1 : Int) := by omega
      have e6 : (Y2 : Int) ≤ (E2 : Int) := by omega
      have e7 : (E1 : Int) ≤ (xs.length : Int) := by omega
      have e8 : (E2 : Int) ≤ (ys.length : Int) := by omega
      replace H3 := H3.drew
      obtain ⟨A1, hA1⟩ : ∃ A, (if c1 = P then a1 else Option.map (fun x => x.add P) a1) = A := ⟨_, rfl⟩
      have hs1 := segSSB (S1.toQ H3.bel (by omega)) P (Y0) c1 (by omega) (by omega) k1
      rw [hA1] at hs1
      have hl1 : ((xs.drop P).take (Y0 - P)).length = Y0 - P := by rw [List.length_take, List.length_drop]; omega
      have hq1 : ∀ x ∈ (xs.drop P).take (Y0 - P), x.size ≤ 1048576 := fun x hx => by have := z1 x (List.mem_of_mem_drop (List.mem_of_mem_take hx)); omega
      have hc1 := l3Put 32 (p + 1) _ T0 _ A1 (c1 - P) W3.drew H3.O (hs1.mono (by omega)) (by have := H3.hp; omega) hq1 (by omega)
      rw [hl1] at hc1
      have hn1 : (T0 ++ ((xs.drop P).take (Y0 - P)).map (mkL 32)).length ≤ T0.length + (Y0 - P) := by rw [List.length_append, List.length_map, hl1]; exact Nat.le_refl _
      obtain ⟨T1, hT1⟩ : ∃ T, T0 ++ ((xs.drop P).take (Y0 - P)).map (mkL 32) = T := ⟨_, rfl⟩
      have HT1 : Hid (T0 ++ ((xs.drop P).take (Y0 - P)).map (mkL 32) = T1) := hT1
      rw [hT1] at hc1 hn1
      have m0 : W3.cell? ⟨wr.heap.size, 0, none⟩ = _ := H3.C 0 _ rfl
      have t2 : W3.cell? ⟨p, 2, none⟩ = _ := H3.R.at_ 2 _ rfl
      clear hs1 hT1
      go_wp2
      go_cut [62] from 46 to 95 (fun _ wx => ∃ va vc, HS p wr.heap.size W2 wx HA HBv (.slice va T1.length vc) T1 [.int .i64 (Y0 : Int), .int .i64 (Y1 : Int), .int .i64 (Y2 : Int), .int .i64 (Y3 : Int)])
      case first =>
        go_region_with (go_at_call 72; refine hc1.mono ?_; rintro e v1w ⟨v1, rfl, o1, g1, u1⟩; have x2 := (H3.mid g1).at_ 2 _ rfl; have y2 := (H3.mid g1).fz 2; obtain ⟨va1, vc1, ev1⟩ := shapeS o1; subst ev1)
        all_goals (go_wp2_with fail; go_meet; exact ⟨_, _, H3.step hpq o1 g1 u1⟩)
      case rest =>
      obtain ⟨va1, vc1, H4⟩ := hcut
      obtain ⟨w4, hw4⟩ : ∃ W, W = wc := ⟨_, rfl⟩
      subst hw4
      clear H3 hc1 hA1 t2
      clear m0 f0 f1 f2 f3 hW3
      replace H4 := H4.drew
      obtain ⟨A2, hA2⟩ : ∃ A, (if c1 = Y0 then a1 else Option.map (fun x => x.add Y0) a1) = A := ⟨_, rfl⟩
      have hs2 := segSSB (S1.toQ H4.bel (by omega)) Y0 (E1) c1 (by omega) (by omega) k1
      rw [hA2] at hs2
      have hl2 : ((xs.drop Y0).take (E1 - Y0)).length = E1 - Y0 := by rw [List.length_take, List.length_drop]; omega
      have hq2 : ∀ x ∈ (xs.drop Y0).take (E1 - Y0), x.size ≤ 1048576 := fun x hx => by have := z1 x (List.mem_of_mem_drop (List.mem_of_mem_take hx)); omega
      have hc2 := l3Put 45 (p + 1) _ T1 _ A2 (c1 - Y0) w4.drew H4.O (hs2.mono (by omega)) (by have := H4.hp; omega) hq2 (by omega)
      rw [hl2] at hc2
      have hn2 : (T1 ++ ((xs.drop Y0).take (E1 - Y0)).map (mkL 45)).length ≤ T1.length + (E1 - Y0) := by rw [List.length_append, List.length_map, hl2]; exact Nat.le_refl _
      obtain ⟨T2, hT2⟩ : ∃ T, T1 ++ ((xs.drop Y0).take (E1 - Y0)).map (mkL 45) = T := ⟨_, rfl⟩
      have HT2 : Hid (T1 ++ ((xs.drop Y0).take (E1 - Y0)).map (mkL 45) = T2) := hT2
      rw [hT2] at hc2 hn2
      have m0 : w4.cell? ⟨wr.heap.size, 0, none⟩ = _ := H4.C 0 _ rfl
      have m1 : w4.cell? ⟨wr.heap.size, 1, none⟩ = _ := H4.C 1 _ rfl
      have t2 : w4.cell? ⟨p, 2, none⟩ = _ := H4.R.at_ 2 _ rfl
      clear hs2 hT2
      go_wp2
      go_cut [75] from 46 to 95 (fun _ wx => ∃ va vc, HS p wr.heap.size W2 wx HA HBv (.slice va T2.length vc) T2 [.int .i64 (Y0 : Int), .int .i64 (Y1 : Int), .int .i64 (Y2 : Int), .int .i64 (Y3 : Int)])
      case first =>
        go_region_with (go_at_call 72; refine hc2.mono ?_; rintro e v2w ⟨v2, rfl, o2, g2, u2⟩; have x2 := (H4.mid g2).at_ 2 _ rfl; have y2 := (H4.mid g2).fz 2; obtain ⟨va2, vc2, ev2⟩ := shapeS o2; subst ev2)
        all_goals (go_wp2_with fail; go_meet; exact ⟨_, _, H4.step hpq o2 g2 u2⟩)
      case rest =>
      obtain ⟨va2, vc2, H5⟩ := hcut
      obtain ⟨w5, hw5⟩ : ∃ W, W = wc := ⟨_, rfl⟩
      subst hw5
      clear H4 hc2 hA2 t2
      clear m0 m1
      replace H5 := H5.drew
      obtain ⟨A3, hA3⟩ : ∃ A, (if c2 = Y2 then a2 else Option.map (fun x => x.add Y2) a2) = A := ⟨_, rfl⟩
      have hs3 := segSSB (S2.toQ H5.bel (by omega)) Y2 (E2) c2 (by omega) (by omega) k2
      rw [hA3] at hs3
      have hl3 : ((ys.drop Y2).take (E2 - Y2)).length = E2 - Y2 := by rw [List.length_take, List.length_drop]; omega
      have hq3 : ∀ x ∈ (ys.drop Y2).take (E2 - Y2), x.size ≤ 1048576 := fun x hx => by have := z2 x (List.mem_of_mem_drop (List.mem_of_mem_take hx)); omega
      have hc3 := l3Put 43 (p + 1) _ T2 _ A3 (c2 - Y2) w5.drew H5.O (hs3.mono (by omega)) (by have := H5.hp; omega) hq3 (by omega)
      rw [hl3] at hc3
      have hn3 : (T2 ++ ((ys.drop Y2).take (E2 - Y2)).map (mkL 43)).length ≤ T2.length + (E2 - Y2) := by rw [List.length_append, List.length_map, hl3]; exact Nat.le_refl _
      obtain ⟨T3, hT3⟩ : ∃ T, T2 ++ ((ys.drop Y2).take (E2 - Y2)).map (mkL 43) = T := ⟨_, rfl⟩
      have HT3 : Hid (T2 ++ ((ys.drop Y2).take (E2 - Y2)).map (mkL 43) = T3) := hT3
      rw [hT3] at hc3 hn3
      have m2 : w5.cell? ⟨wr.heap.size, 2, none⟩ = _ := H5.C 2 _ rfl
      have m3 : w5.cell? ⟨wr.heap.size, 3, none⟩ = _ := H5.C 3 _ rfl
      have t2 : w5.cell? ⟨p, 2, none⟩ = _ := H5.R.at_ 2 _ rfl
      clear hs3 hT3
      go_wp2
      go_cut [88] from 46 to 95 (fun _ wx => ∃ va vc, HS p wr.heap.size W2 wx HA HBv (.slice va T3.length vc) T3 [.int .i64 (Y0 : Int), .int .i64 (Y1 : Int), .int .i64 (Y2 : Int), .int .i64 (Y3 : Int)])
      case first =>
        go_region_with (go_at_call 72; refine hc3.mono ?_; rintro e v3w ⟨v3, rfl, o3, g3, u3⟩; have x2 := (H5.mid g3).at_ 2 _ rfl; have y2 := (H5.mid g3).fz 2; obtain ⟨va3, vc3, ev3⟩ := shapeS o3; subst ev3)
        all_goals (go_wp2_with fail; go_meet; exact ⟨_, _, H5.step hpq o3 g3 u3⟩)
      case rest =>
      obtain ⟨va3, vc3, H6⟩ := hcut
      obtain ⟨w6, hw6⟩ : ∃ W, W = wc := ⟨_, rfl⟩
      subst hw6
      clear H5 hc3 hA3 t2
      clear m2 m3
      have m0 := H6.C 0 _ rfl
      have m1 := H6.C 1 _ rfl
      have HU : Hid (hlK xs ys HA cs (k + 1) = T3) := by show _ = _; rw [HSU.out, HT0.out, HT1.out, HT2.out, HT3.out]
      have O6 : Hid (w6.ownsRow (p + 1) 9 1 (.slice va3 T3.length vc3) (hlK xs ys HA cs (k + 1)).length ((hlK xs ys HA cs (k + 1)).map Value.string)) := by
        show World.ownsRow _ _ _ _ _ _ _
        rw [HU.out]; exact H6.O
      have R6 := H6.R
      have B6 := H6.bel
      clear H6
      go_wp2
      go_roundw
      case rel => exact ⟨k + 1, _, by omega, by first | rfl | go_num, by rw [HAS.out], R6, O6.out, B6⟩
      case measure => first | (simp [intOf]; omega) | simp [intOf]
    · have q : ¬ (k : Int) < (cs.length : Int) := by omega
      obtain rfl : k = cs.length := by omega
      have hak := hatk cs.length (Nat.le_refl _)
      have hlen := hlK_length (xs := xs) (ys := ys) hw hn hm HA cs.length (Nat.le_refl _)
      have hL : hunkL xs ys cx cs = hlK xs ys HA cs cs.length ++ (sg xs (atK HA cs cs.length) (min (atK HA cs cs.length + cx) xs.length)).map (mkL 32) := by unfold hunkL; rw [HHA.out]
      obtain ⟨P, hP⟩ : ∃ P : Nat, atK HA cs cs.length = (P : Int) := ⟨(atK HA cs cs.length).toNat, by omega⟩
      obtain ⟨E, hE⟩ : ∃ E : Nat, min ((P : Int) + cx) (xs.length : Int) = (E : Int) := ⟨(min ((P : Int) + cx) (xs.length : Int)).toNat, by omega⟩
      rw [hP] at hL hak ⊢
      rw [hE, sg_nat] at hL
      obtain ⟨hak1, hak2, _⟩ := hak
      have v0 : P ≤ xs.length := by omega
      have hPy : y0 + y1 = (P : Int) := by rw [← hP]; exact (HATL.out HA).symm
      have hwr : IntKind.i64.wrap ((P : Int) + cx) = (P : Int) + cx := wrapId _ (by omega) (by omega)
      have hLM2 := fun w => l1Min (xs.length : Int) ((P : Int) + cx) w
      rw [Int.min_comm, hE] at hLM2
      have v1 : E ≤ c1 := by omega
      have v2 : P ≤ E := by omega
      have v3 : E ≤ xs.length := by omega
      have HL : Hid (hunkL xs ys cx cs = hlK xs ys HA cs cs.length ++ ((xs.drop P).take (E - P)).map (mkL 32)) := hL
      obtain ⟨T0, hT0⟩ : ∃ S, hlK xs ys HA cs cs.length = S := ⟨_, rfl⟩
      have HT0 : Hid (hlK xs ys HA cs cs.length = T0) := hT0
      rw [hT0] at hu hlen
      obtain ⟨ua, uc, eu⟩ := shapeS hu
      subst eu
      have r3 : Rf wr w.heap.size [.int .i64 0, .int .i64 0, .slice none 0 0] := ⟨fun k v hk => (hbel.cell (p := ⟨w.heap.size, k, none⟩) hpw).trans (r2.at_ k v hk), fun k => (hbel.frozen (p := ⟨w.heap.size, k, none⟩) hpw).trans (r2.fz k)⟩
      have H3 : HS p w.heap.size W2 wr HA HBv (.slice ua T0.length uc) T0 [.int .i64 0, .int .i64 0, .slice none 0 0] :=
        ⟨hR, hu, r3.at_, hbel, by omega, by omega, fun j hj => by have := (hu.lt j hj).1; omega⟩
      have hpq : p ≠ w.heap.size := by omega
      clear hL hT0 hP hR hu
      replace H3 := H3.drew
      obtain ⟨A1, hA1⟩ : ∃ A, (if c1 = P then a1 else Option.map (fun x => x.add P) a1) = A := ⟨_, rfl⟩
      have hs1 := segSSB (S1.toQ H3.bel (by omega)) P E c1 v2 v3 k1
      rw [hA1] at hs1
      have hl1 : ((xs.drop P).take (E - P)).length = E - P := by rw [List.length_take, List.length_drop]; omega
      have hq1 : ∀ x ∈ (xs.drop P).take (E - P), x.size ≤ 1048576 := fun x hx => by have := z1 x (List.mem_of_mem_drop (List.mem_of_mem_take hx)); omega
      have hc1 := l3Put 32 (p + 1) _ T0 _ A1 (c1 - P) wr.drew H3.O (hs1.mono (by omega)) (by have := H3.hp; omega) hq1 (by omega)
      rw [hl1] at hc1
      obtain ⟨T1, hT1⟩ : ∃ T, T0 ++ ((xs.drop P).take (E - P)).map (mkL 32) = T := ⟨_, rfl⟩
      have HT1 : Hid (T0 ++ ((xs.drop P).take (E - P)).map (mkL 32) = T1) := hT1
      rw [hT1] at hc1
      have t2 : wr.cell? ⟨p, 2, none⟩ = _ := H3.R.at_ 2 _ rfl
      clear hs1 hT1
      go_wp2
      go_cut [106] from 96 to 109 (fun _ wx => ∃ va vc, HS p w.heap.size W2 wx HA HBv (.slice va T1.length vc) T1 [.int .i64 0, .int .i64 0, .slice none 0 0])
      case first =>
        go_region_with (first | (go_at_call 71; refine (hLM2 _).mono ?_; rintro e w9 ⟨rfl, rfl⟩) | (go_at_call 72; refine hc1.mono ?_; rintro e v1w ⟨v1, rfl, o1, g1, u1⟩; have x2 := (H3.mid g1).at_ 2 _ rfl; have y2 := (H3.mid g1).fz 2; obtain ⟨va1, vc1, ev1⟩ := shapeS o1; subst ev1))
        all_goals (go_wp2_with fail; go_meet; exact ⟨_, _, H3.step hpq o1 g1 u1⟩)
      case rest =>
      obtain ⟨va, vc, H4⟩ := hcut
      have r4 : Rf wc w.heap.size [.int .i64 0, .int .i64 0, .slice none 0 0] := ⟨H4.C, fun k => (H4.bel.frozen (p := ⟨w.heap.size, k, none⟩) hpw).trans (r2.fz k)⟩
      have q0 := H4.R.at_ 0 _ rfl
      have q1 := H4.R.at_ 1 _ rfl
      have q2 := H4.R.at_ 2 _ rfl
      have f0 := r4.at_ 0 _ rfl
      have f1 := r4.at_ 1 _ rfl
      have f2 := r4.at_ 2 _ rfl
      have y0 := r4.fz 0
      have y1 := r4.fz 1
      have y2 := r4.fz 2
      have HBl := below_set3 (B2.trans (H4.bel.mono (Nat.le_of_lt hpw))) (Nat.le_refl w.heap.size) (.int .i64 HA) (.int .i64 HBv) (.slice va T1.length vc)
      have HO : Hid ((((wc.setCell ⟨w.heap.size, 0, none⟩ (.int .i64 HA)).setCell ⟨w.heap.size, 1, none⟩ (.int .i64 HBv)).setCell ⟨w.heap.size, 2, none⟩ (.slice va T1.length vc)).ownsRow w.heap.size 9 1 (.slice va T1.length vc) T1.length (T1.map Value.string)) :=
        ownMono (H4.O.kept (grownSet3 wc w.heap.size _ _ _) (blockCases _ _ fun j c1 c2 => by cases c2; have := (H4.O.lt _ c1).1; omega)) (by omega)
      have HHL : Hid (hunkL xs ys cx cs = T1) := by show _ = _; rw [HL.out, HT0.out, HT1.out]
      clear H4 H3 t2 hc1 r4 r3 r2
      go_wp2
      refine bodyPost_ret (v := .agg #[.int .i64 HA, .int .i64 HBv, .slice va T1.length vc]) (by simp [results, Tryz.results54, go_sem, f0, f1, f2]) rfl ?_
      have hH : hunkOf xs ys cx cs = (HA, HBv, T1) := by unfold hunkOf; rw [HHA.out, HHB.out, HHL.out]
      rw [hH]
      exact ⟨_, rfl, HO.out, HBl⟩
end Go.Proofs.YtnkbjbbaoddfkaaGreatDoor
