/- Proved: at every code FnStores returns true (what is put is got, once, and other data of its name is refused). No condition: FnStoresSaid itself. -/
import Derived.Test.YtnififnogdekiaaRows
import Derived.Test.YtnififnogdekiaaLemQ
import Derived.Test.YtnififnogdekiaaMarksQ
import Derived.Test.YtnififnogdekiaaDTabQ
import Derived.Test.YtnififnogdekiaaInQ
import Derived.Test.YtnififnogdekiaaHkTQ
import Derived.Test.YtnififnogdekiaaIdMQ
import Derived.Test.YtnififnogdekiaaObLQ
import Derived.Test.YtnififnogdekiaaSfCQ
import Derived.Test.YtnififnogdekiaaGtSQ
import Derived.Test.YtnififnogdekiaaGoCQ
import Derived.Test.YtnififnogdekiaaPuLQ
import Derived.Test.YtnififnogdekiaaPuSQ
import Derived.Test.YtnififnogdekiaaPuPQ
import Derived.Test.YtnififnogdekiaaMsLQ
import Derived.Test.YtnififnogdekiaaDrawQ
import Derived.Test.YtnififnogdekiaaDraw12Q
import Derived.Test.YtnififnogdekiaaDraw13Q
import Derived.Test.YtnififnogdekiaaDraw14Q
import Derived.Test.YtnififnogdekiaaPuIQ
import Derived.Test.YtnififnogdekiaaIsCQ
import Derived.Test.YtnififnogdekiaaLwHQ
import Derived.Test.YtnififnogdekiaaStQQ
import Derived.Test.YtnififnogdekiaaIdCQ
import Derived.Test.YtnififnogdekiaaDigCQ
import Derived.Test.YtnififnogdekiaaTFQ
import Derived.Test.YtnififnogdekiaaSplQ
import Derived.Test.YtnififnogdekiaaDraw5Q
import Derived.WalkKit
import Derived.ProofKit
import Derived.OpenShut
import Derived.Below
import Derived.Carry
import Derived.Laws.Cover1
import Derived.Deep.QuietTactic
import Derived.BigQuiet
import Derived.Deep.RegionWith
import Derived.Deep.CutRange
import Derived.Deep.RegionHeld
namespace Go.Proofs.Ytnififnogdekiaa.FsW
open Go.ChangeShapes Go.WideShapes Go.ChangeAt Go.RowKit

theorem lwBig (a : Option Addr) (n cap : Nat) (w : World) : Calls Try.prog 4 #[.slice a n cap] w fun e w' => e = .returned (.bool (decide ((1048576 : Int) < (n : Int)))) ∧ w' = w := by
  go_enter Try.func4, Try.ntmps4
  go_wp2
  go_ret
  exact ⟨rfl, rfl⟩
theorem zc {w w' : World} {b o : Nat} {v : Value} (h : Below w.heap.size w w') (hc : w.cell? ⟨b, o, none⟩ = some v) : w'.cell? ⟨b, o, none⟩ = some v := (Fr.ofBelow (lo := 0) (hi := 0) h).cell hc (.inr (Nat.zero_le _))
theorem small_of {l : List Ob} (h : SmO l) : SmallO l ∧ l.length ≤ 1048576 := ⟨fun o ho => by have := h.2 o ho; omega, by have := h.1; omega⟩
/-- A variable that holds an answer of four cells. -/
def RW (W : World) (v0 v1 v2 v3 : Value) (s : Value) (wx : World) : Prop := ∃ q : Nat, s = .pointer (some ⟨q, 0, none⟩) ∧ Rf wx q [v0, v1, v2, v3] ∧ Below W.heap.size W wx ∧ W.heap.size ≤ q
theorem fourKeep {u : World} {p b o : Nat} {v0 v1 v2 v3 x : Value} (hc : u.cell? ⟨b, o, none⟩ = some x) (h : b < p) : ((((u.setCell ⟨p, 0, none⟩ v0).setCell ⟨p, 1, none⟩ v1).setCell ⟨p, 2, none⟩ v2).setCell ⟨p, 3, none⟩ v3).cell? ⟨b, o, none⟩ = some x := by
  rw [World.cell?_setCell_other _ _ _ _ (by intro c; simp only [Addr.mk.injEq] at c; omega), World.cell?_setCell_other _ _ _ _ (by intro c; simp only [Addr.mk.injEq] at c; omega), World.cell?_setCell_other _ _ _ _ (by intro c; simp only [Addr.mk.injEq] at c; omega), World.cell?_setCell_other _ _ _ _ (by intro c; simp only [Addr.mk.injEq] at c; omega)]
  exact hc
theorem newR4 {w w1 : World} {a b c d : Value} {t : TypeId} (h : Below ((w.alloc (.cells #[a, b, c, d] t)).drew).heap.size ((w.alloc (.cells #[a, b, c, d] t)).drew) w1) : Rf w1 w.heap.size [a, b, c, d] ∧ Below w.heap.size w w1 ∧ w.heap.size < w1.heap.size := by
  have q : Rf (w.alloc (.cells #[a, b, c, d] t)) w.heap.size [a, b, c, d] := Rf.new _ _ _
  have q2 : Rf ((w.alloc (.cells #[a, b, c, d] t)).drew) w.heap.size [a, b, c, d] := ⟨q.at_, q.fz⟩
  exact ⟨q2.below (by show w.heap.size < (w.alloc (.cells #[a, b, c, d] t)).heap.size; simp) h, (below_drew (allocBelow w _)).trans (h.mono (by show w.heap.size ≤ (w.alloc (.cells #[a, b, c, d] t)).heap.size; simp)), Nat.lt_of_lt_of_le (by show w.heap.size < (w.alloc (.cells #[a, b, c, d] t)).heap.size; simp) h.size⟩
theorem RW.new {W w2 : World} {v0 v1 v2 v3 : Value} {t : TypeId} (b : Below W.heap.size W w2) : RW W v0 v1 v2 v3 (.pointer (some ⟨w2.heap.size, 0, none⟩)) (w2.alloc (.cells #[v0, v1, v2, v3] t)) :=
  ⟨w2.heap.size, rfl, Rf.new _ _ _, b.alloc b.size _, b.size⟩
theorem RW.sets {W w2 : World} {v0 v1 v2 v3 a0 a1 a2 a3 : Value} (b : Below W.heap.size W w2) (h : Rf w2 W.heap.size [a0, a1, a2, a3]) :
    RW W v0 v1 v2 v3 (.pointer (some ⟨W.heap.size, 0, none⟩)) ((((w2.setCell ⟨W.heap.size, 0, none⟩ v0).setCell ⟨W.heap.size, 1, none⟩ v1).setCell ⟨W.heap.size, 2, none⟩ v2).setCell ⟨W.heap.size, 3, none⟩ v3) :=
  ⟨W.heap.size, rfl, (((h.set (o := 0) (by simp) v0).set (o := 1) (by simp) v1).set (o := 2) (by simp) v2).set (o := 3) (by simp) v3, (((b.setCell (p := ⟨W.heap.size, 0, none⟩) (Nat.le_refl _) v0).setCell (p := ⟨W.heap.size, 1, none⟩) (Nat.le_refl _) v1).setCell (p := ⟨W.heap.size, 2, none⟩) (Nat.le_refl _) v2).setCell (p := ⟨W.heap.size, 3, none⟩) (Nat.le_refl _) v3, Nat.le_refl _⟩
theorem twin_of {d D : ByteArray} (h0 : 0 < d.size) (h1 : 1 < d.size) (h255 : ¬ (d[0]'h0).toNat = 255) (h131 : ¬ (d[1]'h1).toNat < 131) (hD : (⟨#[((d[0]'h0).toNat + 1).toUInt8, ((d[1]'h1).toNat - 131).toUInt8]⟩ : ByteArray) = D) :
    (D ++ d.extract 2 d.size).size ≤ d.size ∧ dig (D ++ d.extract 2 d.size).data.toList = dig d.data.toList ∧ D ++ d.extract 2 d.size ≠ d := by
  have u0 := UInt8.toNat_lt (d[0]'h0)
  have u1 := UInt8.toNat_lt (d[1]'h1)
  have hl : d.data.toList.length = d.size := by simp
  have e1 : d.data.toList = d[0]'h0 :: d[1]'h1 :: d.data.toList.drop 2 := by
    rw [← List.drop_zero (l := d.data.toList), List.drop_eq_getElem_cons (by omega), List.drop_eq_getElem_cons (by omega)]
    rfl
  have e2 : (D ++ d.extract 2 d.size).data.toList = ((d[0]'h0).toNat + 1).toUInt8 :: ((d[1]'h1).toNat - 131).toUInt8 :: d.data.toList.drop 2 := by
    rw [← hD, ByteArray.data_append, Array.toList_append, ByteArray.data_extract, Array.toList_extract]
    simp [List.extract, List.take_of_length_le (show (d.data.toList.drop 2).length ≤ d.size - 2 by rw [List.length_drop, hl]; omega)]
  have n0 : (((d[0]'h0).toNat + 1).toUInt8).toNat = (d[0]'h0).toNat + 1 := by simp; omega
  have n1 : (((d[1]'h1).toNat - 131).toUInt8).toNat + 131 = (d[1]'h1).toNat := by simp; omega
  have hz : (D ++ d.extract 2 d.size).data.toList.length = d.data.toList.length := by rw [e2, e1]; simp
  refine ⟨?_, ?_, ?_⟩
  · have : (D ++ d.extract 2 d.size).data.toList.length = (D ++ d.extract 2 d.size).size := by simp
    omega
  · rw [e2, e1]; exact dig_twin _ n0 n1
  · intro e
    rw [e, e1] at e2
    have := (List.cons.inj e2).1
    rw [← this] at n0
    omega
theorem shapeW {w : World} {base : Nat} {e : TypeId} {s : Nat} {v : Value} {n : Nat} {xs : List Value} (h : w.ownsRow base e s v n xs) : ∃ a c, v = .slice a n c := by
  rcases h.2 with ⟨h', h0'⟩ | ⟨g, c, cur, h', _⟩
  · exact ⟨none, 0, by rw [h', h0']⟩
  · exact ⟨_, _, h'⟩
set_option maxRecDepth 20000 in
set_option maxHeartbeats 4000000 in
theorem walk (a : Option Addr) (n cap : Nat) (w : World) (h : Bts w a n) (_hm : n ≤ 9223372036854775807) :
    Calls Try.prog 3 #[.slice a n cap] w fun e w' => e = .returned (.bool true) ∧ Below w.heap.size w w' := by
  by_cases hbig : (1048576 : Int) < (n : Int)
  · go_enter Try.func3, Try.ntmps3
    go_wp2_with (go_at_call 4; refine (lwBig _ _ _ _).mono ?_; rintro e w' ⟨rfl, rfl⟩)
    go_ret
    exact ⟨rfl, Below.refl _ _⟩
  go_enter Try.func3, Try.ntmps3
  go_wp2_with fail
  refine (lwBig _ _ _ _).mono ?_; rintro e w ⟨rfl, rfl⟩
  go_wp2_with fail
  refine (drawPutObject a n cap _ h (by omega)).mono ?_; rintro e w1 ⟨g1, c1, l1, kd, d, rfl, hcap, O1, m1, hdz, b1⟩
  clear h
  obtain ⟨q1, q2⟩ := small_of m1
  have hP := fun w p => implPutObject (some ⟨g1, 0, none⟩) c1 l1 kd d w p q1 q2 (by omega)
  have hS := fun w p => specPutObject g1 0 c1 l1 kd d w p hcap q1 q2 (by omega)
  go_wp2_with fail
  first
    | (refine (hP _ O1).mono ?_; rintro e w2 ⟨v2, rfl, o2, b2⟩)
    | (trace_state; fail)
  obtain ⟨ra, rc, er⟩ := shapeW o2
  subst er
  by_cases h0 : poR l1 kd d = 0
  · have FA := fs_all h0
    rw [h0]
    have hIs : (poS l1 kd d).size ≤ 10 := by
      have := FA.isid
      have := idB_size this
      omega
    obtain ⟨L, hL⟩ : ∃ L, poL l1 kd d = L := ⟨_, rfl⟩
    obtain ⟨I, hI⟩ : ∃ I, poS l1 kd d = I := ⟨_, rfl⟩
    rw [hL, hI] at FA ⊢
    rw [hL] at o2
    rw [hI] at hIs
    obtain ⟨s1, s2⟩ := fs_small FA m1 hdz hIs
    obtain ⟨W3, hW3⟩ : ∃ W, w2.alloc (.cells #[.int .i64 0, .string I, .slice ra L.length rc] 28) = W := ⟨_, rfl⟩
    have R3 : Rs W3 w2.heap.size [.int .i64 0, .string I, .slice ra L.length rc] := by rw [← hW3]; exact Rs.new _ _ _
    have d3 : Below w2.heap.size w2 W3 := by rw [← hW3]; exact allocBelow _ _
    have c3 : Below w1.heap.size w1 W3 := by rw [← hW3]; exact b2.alloc b2.size _
    have P3 : OB W3.heap.size W3 ra L := ((OB.of o2).below d3).mono d3.size
    have A3 : OB W3.heap.size W3 (some ⟨g1, 0, none⟩) l1 := (O1.below c3).mono c3.size
    have B3 := b1.trans (c3.mono b1.size)
    obtain ⟨p, hp⟩ : ∃ p, w2.heap.size = p := ⟨_, rfl⟩
    have r0 := R3 0 _ rfl
    have r1 := R3 1 _ rfl
    have r2 := R3 2 _ rfl
    rw [hp] at r0 r1 r2
    clear b1 b2 c3 d3 o2 O1 R3 hP hS hL hI h0 q1 q2
    have hG := fun (a3 : Option Addr) (c3 : Nat) kd id w p => implGetObject a3 c3 L kd id w p s1 s2
    have hG1 := fun w p => hG ra rc kd I w p
    rw [FA.got.1, FA.got.2] at hG1
    have hA := fun w p => implPutObject ra rc L kd d w p s1 s2 (by omega)
    rw [FA.again.1, FA.again.2] at hA
    go_wp2_with fail
    refine (hG1 _ P3).mono ?_; rintro e w4 ⟨rfl, b4⟩
    clear hW3
    obtain ⟨W5, hW5⟩ : ∃ W, w4.alloc (.cells #[.int .i64 0, .string I, .int .i64 kd, .string d] 33) = W := ⟨_, rfl⟩
    have R5 : Rs W5 w4.heap.size [.int .i64 0, .string I, .int .i64 kd, .string d] := by rw [← hW5]; exact Rs.new _ _ _
    have c5 : Below W3.heap.size W3 W5 := by rw [← hW5]; exact b4.alloc b4.size _
    have P5 : OB W5.heap.size W5 ra L := (P3.below c5).mono c5.size
    have A5 : OB W5.heap.size W5 (some ⟨g1, 0, none⟩) l1 := (A3.below c5).mono c5.size
    have B5 := B3.trans (c5.mono B3.size)
    have r0 := zc c5 r0
    have r1 := zc c5 r1
    have r2 := zc c5 r2
    obtain ⟨pg, hpg⟩ : ∃ p, w4.heap.size = p := ⟨_, rfl⟩
    have t0 := R5 0 _ rfl
    have t3 := R5 3 _ rfl
    rw [hpg] at t0 t3
    clear b4 c5 R5 P3 A3 B3 hG1
    go_wp2_with fail
    refine (hA _ P5).mono ?_; rintro e w6 ⟨v6, rfl, o6, b6⟩
    clear hW5
    obtain ⟨sa, sc, es⟩ := shapeW o6
    subst es
    obtain ⟨Z, hZ⟩ : ∃ Z, poS L kd d = Z := ⟨_, rfl⟩
    rw [hZ]
    obtain ⟨W7, hW7⟩ : ∃ W, w6.alloc (.cells #[.int .i64 0, .string Z, .slice sa L.length sc] 28) = W := ⟨_, rfl⟩
    have R7 : Rs W7 w6.heap.size [.int .i64 0, .string Z, .slice sa L.length sc] := by rw [← hW7]; exact Rs.new _ _ _
    have c7 : Below W5.heap.size W5 W7 := by rw [← hW7]; exact b6.alloc b6.size _
    have P7 : OB W7.heap.size W7 ra L := (P5.below c7).mono c7.size
    have A7 : OB W7.heap.size W7 (some ⟨g1, 0, none⟩) l1 := (A5.below c7).mono c7.size
    have B7 := B5.trans (c7.mono B5.size)
    have r0 := zc c7 r0
    have r1 := zc c7 r1
    have r2 := zc c7 r2
    have t0 := zc c7 t0
    have t3 := zc c7 t3
    obtain ⟨ps, hps⟩ : ∃ p, w6.heap.size = p := ⟨_, rfl⟩
    have y0 := R7 0 _ rfl
    have y2 := R7 2 _ rfl
    rw [hps] at y0 y2
    clear b6 c7 R7 P5 A5 B5 hA hZ o6
    have hl1 : l1.length ≤ 201 := m1.1
    go_wp2_with fail
    go_loopw [9, 10] (fun vi _o wr => ∃ k : Nat, k ≤ l1.length ∧ vi = .int .i64 (k : Int) ∧ Below W7.heap.size W7 wr) (fun vi _ _ => l1.length - (intOf vi).toNat)
    case atStart => exact ⟨0, Nat.zero_le _, rfl, Below.refl _ _⟩
    case round =>
      obtain ⟨k, hk, rfl, hbel⟩ := hrel
      clear hW7
      have hsz := hbel.size
      have P8 : OB wr.heap.size wr ra L := (P7.below hbel).mono hsz
      have x2 := zc hbel r2
      by_cases hlt : k < l1.length
      · have q : (k : Int) < (l1.length : Int) := by omega
        obtain ⟨gg, off, eg, _, z0, z1, z2⟩ := (A7.below hbel) k hlt
        simp only [Option.some.injEq, Addr.mk.injEq, and_true] at eg
        obtain ⟨rfl, rfl⟩ := eg
        obtain ⟨hgr, hgO⟩ := FA.each (l1.getD k onil) (ob_mem l1 k hlt)
        have hGk := fun w p => hG ra rc (l1.getD k onil).2.1 (l1.getD k onil).1 w p
        rw [hgr, hgO] at hGk
        obtain ⟨C, hCe⟩ : ∃ C, l1.getD k onil = C := ⟨_, rfl⟩
        obtain ⟨u0, u1, u2⟩ := C
        rw [hCe] at z0 z1 z2
        simp only [hCe] at hGk
        simp only [Nat.zero_add] at z0 z1 z2
        have hbs2 : (u2.toList == u2.toList) = true := beqS u2
        clear hCe hgr hgO hG P7 A7 B7 r0 r1 r2 t0 t3 y0 y2
        have hpl : p < wr.heap.size := cellLt x2
        have hgl : g1 < wr.heap.size := cellLt z0
        go_wp2_with fail
        go_cut [10] from 52 to 64 (fun s wx => RW wr (.int .i64 0) (.string u0) (.int .i64 u1) (.string u2) s wx)
        case first =>
          have PD : OB wr.drew.heap.size wr.drew ra L := P8
          have PE : OB ((wr.alloc (.cells #[.int .i64 0, .string ⟨#[]⟩, .int .i64 0, .string ⟨#[]⟩] 33)).drew).heap.size ((wr.alloc (.cells #[.int .i64 0, .string ⟨#[]⟩, .int .i64 0, .string ⟨#[]⟩] 33)).drew) ra L := ((P8.below (allocBelow wr _)).mono (allocBelow wr _).size)
          clear hbel FA s1 m1 P8 hbs2
          go_region_held (fun w' => w'.cell? ⟨p, 2, none⟩ = some (.slice ra L.length rc) ∧ w'.cell? ⟨g1, k * 3, none⟩ = some (.string u0) ∧ w'.cell? ⟨g1, k * 3 + 1, none⟩ = some (.int .i64 u1)) (first | with_reducible exact ⟨x2, z0, z1⟩ | with_reducible exact ⟨k2, k0, k1⟩ | exact ⟨x2, z0, z1⟩ | exact ⟨zc (allocBelow _ _) x2, zc (allocBelow _ _) z0, zc (allocBelow _ _) z1⟩ | exact ⟨zc (allocBelow _ _) k2, zc (allocBelow _ _) k0, zc (allocBelow _ _) k1⟩ | with_reducible exact ⟨fourKeep k2 hpl, fourKeep k0 hgl, fourKeep k1 hgl⟩ | (go_keep; done))
            ((go_at_call 8; (first | (refine (hGk _ PE).mono ?_; rintro e w9 ⟨rfl, b9⟩; obtain ⟨R9, b3, b4⟩ := newR4 b9; have f0 := R9.fz 0; have f1 := R9.fz 1; have f2 := R9.fz 2; have f3 := R9.fz 3; have e0 := R9.at_ 0 _ rfl; have e1 := R9.at_ 1 _ rfl; have e2 := R9.at_ 2 _ rfl; have e3 := R9.at_ 3 _ rfl) | (refine (hGk _ PD).mono ?_; rintro e w9 ⟨rfl, b9⟩; have b3 : Below wr.heap.size wr w9 := (below_drew (Below.refl _ _)).trans b9)); have k2 := zc b3 x2; have k0 := zc b3 z0; have k1 := zc b3 z1))
          all_goals (go_wp2_with fail; go_meet; (first | exact RW.new b3 | exact RW.sets b3 R9))
        case rest =>
        obtain ⟨q, rfl, hR, hB, hq1⟩ := hcut
        have hb2 := hbel.trans (hB.mono hsz)
        have e0 := hR.at_ 0 _ rfl
        have e3 := hR.at_ 3 _ rfl
        have z2 := zc hB z2
        clear hB hR P8 x2 z0 z1 hbel hGk
        go_wp2
        go_quiet (fail)
        go_wp2
        go_roundw
        case rel => exact ⟨k + 1, by omega, by go_num, below_drewN' hb2 _⟩
        case measure => first | (simp [intOf]; omega) | simp [intOf]
      · have q : ¬ (k : Int) < (l1.length : Int) := by omega
        have B8 := B7.trans (hbel.mono B7.size)
        have r1 := zc hbel r1
        have t0 := zc hbel t0
        have t3 := zc hbel t3
        have y0 := zc hbel y0
        have y2 := zc hbel y2
        have P8 : OB wr.heap.size wr ra L := (P7.below hbel).mono hsz
        have r2 := zc hbel r2
        have hF := fun w p => implStoreFault ra rc L w p s1 s2
        rw [FA.fault] at hF
        have hJ := fun w => implIsId I w
        rw [FA.isid] at hJ
        have hK := fun w p => implIdsOf ra rc L kd w p s1 s2
        rw [FA.ids.1, FA.ids.2.1] at hK
        have hin := FA.ids.2.2
        have hXl : (idsU L kd).length ≤ 1048576 := by have := idsU_len L kd; omega
        have hXz : ∀ j, j < (idsU L kd).length → ((idsU L kd).getD j ByteArray.empty).size ≤ 9223372036854775807 := fun j hj => by
          have hm : (idsU L kd).getD j ByteArray.empty ∈ idsU L kd := by rw [getD_at _ _ hj]; exact List.getElem_mem hj
          unfold idsU at hm
          simp only [List.mem_map, List.mem_filter] at hm
          obtain ⟨o, ⟨ho, _⟩, e⟩ := hm
          rw [show (idsU L kd).getD j ByteArray.empty = o.1 from e.symm]
          have := (s1 o ho).1
          omega
        obtain ⟨X, hX⟩ : ∃ X, idsU L kd = X := ⟨_, rfl⟩
        rw [hX] at hK hin hXl hXz
        have hH := fun (va : Option Addr) (vc : Nat) w p => lwHas va vc X I w p hXl hin
        have flL : ∀ (va : Option Addr) (n vc : Nat) w, (Instr.field 40 (.agg #[.int .i64 0, .slice va n vc]) 1).run Try.prog w = .ok (.slice va n vc) w := fun va n vc w => by kernel_rfl
        have nn : ((L.length : Int) != (L.length : Int)) = false := by simp
        have hbd : (d.toList == d.toList) = true := beqS d
        have T6 : Hid (∀ d', dig d'.data.toList = dig d.data.toList → d' ≠ d → tf d' = 0 → poR L kd d' = 6) := FA.twin
        clear hbel P7 A7 B7 r0 hG hlt hk FA hX hpg hps hp m1 hl1
        obtain ⟨V, hV⟩ : ∃ V, V = wr := ⟨_, rfl⟩
        subst hV
        go_wp2_with fail
        go_cut [125] from 79 to 125 (fun s wx => s = .bool false ∧ Below V.heap.size V wx)
        case first =>
          have PD : OB V.drew.heap.size V.drew ra L := P8
          clear T6 B8 hin hXl
          go_region_held (fun w' => w'.cell? ⟨p, 1, none⟩ = some (.string I) ∧ w'.cell? ⟨p, 2, none⟩ = some (.slice ra L.length rc) ∧ w'.cell? ⟨pg, 0, none⟩ = some (.int .i64 0) ∧ w'.cell? ⟨pg, 3, none⟩ = some (.string d) ∧ w'.cell? ⟨ps, 0, none⟩ = some (.int .i64 0) ∧ w'.cell? ⟨ps, 2, none⟩ = some (.slice sa L.length sc)) (first | with_reducible exact ⟨r1, r2, t0, t3, y0, y2⟩ | with_reducible exact ⟨a1, a2, b0, b3, d0, d2⟩ | with_reducible exact ⟨e1, e2, f0, f3, g0, g2⟩ | exact ⟨r1, r2, t0, t3, y0, y2⟩ | exact ⟨e1, e2, f0, f3, g0, g2⟩)
            ((first
              | (go_at_call 9; refine (hF _ PD).mono ?_; rintro e wa ⟨rfl, ba⟩; have BA : Below V.heap.size V wa := (below_drew (Below.refl _ _)).trans ba; have a1 := zc BA r1; have a2 := zc BA r2; have b0 := zc BA t0; have b3 := zc BA t3; have d0 := zc BA y0; have d2 := zc BA y2; have PA : OB wa.heap.size wa ra L := (P8.below BA).mono BA.size)
              | (go_at_call 10; refine (hJ _).mono ?_; rintro e wj ⟨rfl, rfl⟩)
              | (go_at_call 12; refine (hK _ PA).mono ?_; rintro e wk ⟨vk, rfl, ok, bk⟩; obtain ⟨ka, kc, ek⟩ := shapeW ok; subst ek; have BK : Below V.heap.size V wk := BA.trans (bk.mono BA.size); have e1 := zc BK r1; have e2 := zc BK r2; have f0 := zc BK t0; have f3 := zc BK t3; have g0 := zc BK y0; have g2 := zc BK y2; have hSk := ownSS ok hXz)
              | (go_at_call 11; refine (hH _ _ _ hSk).mono ?_; rintro e wl ⟨rfl, ml, rfl⟩)))
          all_goals (go_wp2_with fail; go_meet; exact ⟨rfl, below_drewN' BK _⟩)
        case rest =>
        obtain ⟨rfl, hB⟩ := hcut
        have B9 := B8.trans (hB.mono B8.size)
        have P9 : OB wc.heap.size wc ra L := (P8.below hB).mono hB.size
        have r2 := zc hB r2
        clear hB P8 B8 hF hJ hK hH r1 t0 t3 y0 y2 flL nn hbd hin hXl hXz
        by_cases h2 : d.size < 2
        · have q2 : (d.size : Int) < 2 := by omega
          go_wp2
          go_ret
          exact ⟨rfl, B9⟩
        have qd : ¬ (d.size : Int) < 2 := by omega
        have hz0 : 0 < d.size := by omega
        have hz1 : 1 < d.size := by omega
        have z0 : (0 : Int) < (d.size : Int) := by omega
        have z1 : (1 : Int) < (d.size : Int) := by omega
        have u0 := UInt8.toNat_lt (d[0]'hz0)
        have u1 := UInt8.toNat_lt (d[1]'hz1)
        by_cases h255 : (d[0]'hz0).toNat = 255
        · have q1 : (((d[0]'hz0).toNat : Int) == 255) = true := by rw [h255]; rfl
          go_wp2
          go_ret
          exact ⟨rfl, B9⟩
        have q1 : (((d[0]'hz0).toNat : Int) == 255) = false := by
          rw [beq_eq_false_iff_ne]; omega
        by_cases h131 : (d[1]'hz1).toNat < 131
        · have q2 : ((d[1]'hz1).toNat : Int) < 131 := by omega
          go_wp2
          go_ret
          exact ⟨rfl, B9⟩
        have q2 : ¬ ((d[1]'hz1).toNat : Int) < 131 := by omega
        have hcv := conv_two ((d[0]'hz0).toNat + 1) ((d[1]'hz1).toNat - 131) (by omega) (by omega) (((d[0]'hz0).toNat : Int) + 1) (((d[1]'hz1).toNat : Int) - 131) (by omega) (by omega)
        obtain ⟨D, hD⟩ : ∃ D : ByteArray, (⟨#[((d[0]'hz0).toNat + 1).toUInt8, ((d[1]'hz1).toNat - 131).toUInt8]⟩ : ByteArray) = D := ⟨_, rfl⟩
        rw [hD] at hcv
        obtain ⟨t1, t2, t3⟩ := twin_of hz0 hz1 h255 h131 hD
        have HY : Hid ((D ++ d.extract 2 d.size).size ≤ d.size ∧ dig (D ++ d.extract 2 d.size).data.toList = dig d.data.toList ∧ D ++ d.extract 2 d.size ≠ d) := ⟨t1, t2, t3⟩
        have hDl : D.size ≤ 2 := by rw [← hD]; exact Nat.le_refl _
        have z2 : (2 : Int) ≤ (d.size : Int) := by omega
        have bA := allocBelow wc (.cells #[.int .u8 (((d[0]'hz0).toNat : Int) + 1), .int .u8 (((d[1]'hz1).toNat : Int) - 131)] 5)
        have BA := B9.trans (bA.mono B9.size)
        have PA := (P9.below bA).mono bA.size
        have rA := zc bA r2
        clear hD t1 t2 t3
        go_wp2
        go_region
        all_goals
          obtain ⟨Y, hY⟩ : ∃ Y, D ++ d.extract 2 d.size = Y := ⟨_, rfl⟩
          rw [hY] at HY ⊢
          obtain ⟨y1, y2, y3⟩ := HY.out
          have T7 : tf Y = 0 → poR L kd Y = 6 := fun q => T6.out Y y2 y3 q
          have hDY := fun W => implDigestOf Y W (by unfold maxLen; omega)
          have hDd := fun W => implDigestOf d W (by unfold maxLen; omega)
          rw [y2] at hDY
          obtain ⟨G, hG⟩ : ∃ G, dig d.data.toList = G := ⟨_, rfl⟩
          rw [hG] at hDY hDd
          have hTF := fun W => specTextFault Y W (by omega)
          have hPY := fun W p => implPutObject ra rc L kd Y W p s1 s2 (by omega)
          have gg : (G == G) = true := by simp
          obtain ⟨V, hV⟩ : ∃ V, (wc.alloc (.cells #[.int .u8 (((d[0]'hz0).toNat : Int) + 1), .int .u8 (((d[1]'hz1).toNat : Int) - 131)] 5)).drew = V := ⟨_, rfl⟩
          have BV : Below w.heap.size w V := by rw [← hV]; exact BA.drew
          have PV : OB V.heap.size V ra L := by rw [← hV]; exact PA
          have rV : V.cell? ⟨p, 2, none⟩ = some (.slice ra L.length rc) := by rw [← hV]; exact rA
          rw [hV]
          clear hV HY T6 y2 y3 hcv q1 q2 h131 h255 u0 u1 BA PA rA bA B9 P9 r2 hY hG
          by_cases htf : tf Y = 0
          · have T8 := T7 htf
            rw [htf] at hTF
            rw [T8] at hPY
            have flf : ∀ (S : ByteArray) (va : Option Addr) (m vc : Nat) w, (Instr.field 28 (.agg #[.int .i64 6, .string S, .slice va m vc]) 0).run Try.prog w = .ok (.int .i64 6) w := fun S va m vc w => by kernel_rfl
            go_wp2_with fail
            refine (hDY _).mono ?_; rintro e w9 ⟨rfl, rfl⟩
            go_wp2_with fail
            refine (hDd _).mono ?_; rintro e w9 ⟨rfl, rfl⟩
            go_wp2_with fail
            refine (hTF _).mono ?_; rintro e wt ⟨rfl, bt⟩
            have rT := zc bt rV
            have PT := (PV.below bt).mono bt.size
            have BT := BV.trans (bt.mono BV.size)
            clear bt rV PV BV hDY hDd hTF T7 T8
            go_wp2_with fail
            refine (hPY _ PT).mono ?_; rintro e wp ⟨vp, rfl, op, bp⟩
            obtain ⟨ea, ec, ee⟩ := shapeW op
            subst ee
            have BE := BT.trans (bp.mono BT.size)
            clear bp op hPY PT rT BT
            go_wp2
            go_ret
            exact ⟨rfl, BE⟩
          · have qt : (tf Y != 0) = true := by simp [htf]
            obtain ⟨tv, htv⟩ : ∃ tv, tf Y = tv := ⟨_, rfl⟩
            rw [htv] at hTF qt
            clear htf T7 hPY htv
            go_wp2_with fail
            refine (hDY _).mono ?_; rintro e w9 ⟨rfl, rfl⟩
            go_wp2_with fail
            refine (hDd _).mono ?_; rintro e w9 ⟨rfl, rfl⟩
            go_wp2_with fail
            refine (hTF _).mono ?_; rintro e wt ⟨rfl, bt⟩
            have BT := BV.trans (bt.mono BV.size)
            clear bt rV PV BV hDY hDd hTF
            go_wp2
            go_ret
            exact ⟨rfl, BT⟩
  · have q0 : (poR l1 kd d != 0) = true := by simp [h0]
    obtain ⟨K, hK⟩ : ∃ K, poR l1 kd d = K := ⟨_, rfl⟩
    have hS' : ∀ w, OB w.heap.size w (some ⟨g1, 0, none⟩) l1 → Calls Try.prog 7 #[.slice (some ⟨g1, 0, none⟩) l1.length c1, .int .i64 kd, .string d] w fun e w' => (∃ s1 v1, e = .returned (.agg #[.int .i64 K, .string s1, v1])) ∧ Below w.heap.size w w' := fun w p => (hS w p).mono fun e w' ⟨v1, he, _, hb⟩ => ⟨⟨poS l1 kd d, v1, by rw [he, hK]⟩, hb⟩
    rw [hK] at q0 ⊢
    have kk : (K == K) = true := by simp
    have flf : ∀ s1 v1 w, (Instr.field 28 (.agg #[.int .i64 K, .string s1, v1]) 0).run Try.prog w = .ok (.int .i64 K) w := fun s1 v1 w => by kernel_rfl
    obtain ⟨L, hL⟩ : ∃ L, poL l1 kd d = L := ⟨_, rfl⟩
    obtain ⟨I, hI⟩ : ∃ I, poS l1 kd d = I := ⟨_, rfl⟩
    rw [hL] at o2 ⊢
    rw [hI]
    obtain ⟨W3, hW3⟩ : ∃ W, w2.alloc (.cells #[.int .i64 K, .string I, .slice ra L.length rc] 28) = W := ⟨_, rfl⟩
    have R3 : Rs W3 w2.heap.size [.int .i64 K, .string I, .slice ra L.length rc] := by rw [← hW3]; exact Rs.new _ _ _
    have c3 : Below w1.heap.size w1 W3 := by rw [← hW3]; exact b2.alloc b2.size _
    have A3 : OB W3.heap.size W3 (some ⟨g1, 0, none⟩) l1 := (O1.below c3).mono c3.size
    have B3 := b1.trans (c3.mono b1.size)
    obtain ⟨p, hp⟩ : ∃ p, w2.heap.size = p := ⟨_, rfl⟩
    have r0 := R3 0 _ rfl
    rw [hp] at r0
    clear hP hS b1 b2 c3 o2 O1 R3 h0 hK hL hI q1 q2 m1
    go_upto_region 6 with fail
    go_cut [2] from 27 to 34 (fun s wx => s = .bool true ∧ Below W3.heap.size W3 wx)
    case first =>
      have BD : Below W3.heap.size W3 W3.drew := (Below.refl _ _).drew
      have AD : OB W3.drew.heap.size W3.drew (some ⟨g1, 0, none⟩) l1 := A3
      clear A3 B3 hbig hW3 hp
      go_region_held (fun w' => w'.cell? ⟨p, 0, none⟩ = some (.int .i64 K)) (first | with_reducible exact r0a | exact r0)
        ((go_at_call 7; refine (hS' _ AD).mono ?_; rintro e wa ⟨⟨s1, v1, rfl⟩, ba⟩; have r0a := zc ba r0; have Bt1 := below_step BD BD.size ba))
      all_goals (go_wp2_with fail; go_meet; exact ⟨rfl, Bt1⟩)
    case rest =>
    obtain ⟨rfl, b⟩ := hcut
    have BE := B3.trans (b.mono B3.size)
    clear b
    go_wp2_with fail
    go_ret
    exact ⟨rfl, BE⟩

set_option linter.unusedVariables false
theorem laidOut : laidOutB Try.prog = true := by kernel_rfl
theorem own : ownKnob Try.prog.godebug = none := by kernel_rfl
set_option maxRecDepth 100000 in
theorem lifted (os : Os) (started : os.Started) (H : Type) (enc : TypeId × Value → H) :
    ReturnsInHanded {} Try.checked os 3 .any (Rows.fnStoresSpec.pre6 enc Try.prog Try.f3 Rows.fnStoresRow.domain false) (Rows.fnStoresSpec.post enc Try.prog Try.f3 false true false false) := by
  refine returnsInHanded_of_change (C := Try.checked) own started (by kernel_rfl) Try.func3
    (ChangeSpec.witness6 (enc := enc) (C := Try.checked) false ⟨#[], #[.slice none 0 0], []⟩ 8 (by kernel_rfl) (by kernel_rfl) (by kernel_rfl) (by kernel_rfl)) ?_
  intro W base args ds gs before hval0 hW hcnd _
  have hval : ∀ (j : Nat) t v, Try.f3.params[j]? = some t → args[j]? = some v → Value.okWide Try.prog W .any base t v := hval0
  have hW' := hW
  obtain ⟨p, q, hA0, hV, rfl, hfz, hnd⟩ := hW
  have hA : DataW.TrodAll enc Try.prog W 0 (fun _ => true) true Try.f3.params.toList args.toList ds p := hA0
  rw [Try.params3] at hA hval
  obtain ⟨v0, vs0, d0, ds0, p0, q0, hargs, rfl, rfl, h0, r0⟩ := trodAll_cons hA
  obtain ⟨rfl, rfl, rfl⟩ := trodAll_nil r0
  obtain rfl : args = #[v0] := by cases args; simp_all
  obtain ⟨rfl, rfl⟩ := trodVars_none hV
  obtain ⟨a0, len0, cap0, rfl⟩ := okWide_slice Try.underlying22 (hval 0 22 v0 rfl rfl)
  have k0 := h0
  have lt0 : ∀ x ∈ p0, x.block < W.heap.size := by obtain ⟨m, hm⟩ := k0; exact DataW.trod_lt m _ _ _ hm
  obtain ⟨w0, n0⟩ := openBts h0 lt0
  clear hA0 hval0
  refine (walk a0 len0 cap0 W w0 n0).mono fun e W' ⟨he, bel⟩ => ?_
  subst he
  exact ⟨_, rfl, _, _, _, [], _, [], hW', trodAll_mk1 (shut_bool Try.underlying4 _), (trodAll_cons_mk (Below.trod laidOut (by kernel_rfl) (of_decide_eq_true (by kernel_rfl)) k0 bel lt0) trodAll_mk0), rfl, bel.frame _, fun h => by cases h⟩

theorem over : Rows.fnStoresRow.holds Try.pinned (OpenSpec.ofChange Rows.fnStoresSpec) :=
  OpenClaim.holds_of_wide 3 Try.f3 rfl rfl rfl rfl rfl rfl rfl ⟨rfl, rfl, rfl, rfl, rfl⟩ rfl rfl rfl rfl rfl (by kernel_rfl) Try.func3 (by kernel_rfl)
    (of_decide_eq_true (by kernel_rfl)) (by unfold Func.isWrapper; first | (rw [if_pos (by decide +kernel)]; kernel_rfl) | (rw [if_neg (by decide +kernel)]; exact ⟨rfl, rfl⟩))
    (fun os started H enc _ => lifted os started H enc)

theorem proved : Rows.FnStoresSaid := over
end Go.Proofs.Ytnififnogdekiaa.FsW
namespace Go.Proofs.Ytnififnogdekiaa
theorem fnStores_proved : Rows.FnStoresSaid := FsW.proved
end Go.Proofs.Ytnififnogdekiaa
