/- readHunks: what it does. No statement is proved here. -/
import Derived.Test.YtnkbjbbaoddfkaaGreatDoorRows
import Derived.Test.YtnkbjbbaoddfkaaGreatDoorLemQ
import Derived.Test.YtnkbjbbaoddfkaaGreatDoorDTabQ
import Derived.Test.YtnkbjbbaoddfkaaGreatDoorHkLQ
import Derived.Test.YtnkbjbbaoddfkaaGreatDoorHkCQ
import Derived.Test.YtnkbjbbaoddfkaaGreatDoorHkTQ
import Derived.Test.YtnkbjbbaoddfkaaGreatDoorHnLQ
import Derived.Test.YtnkbjbbaoddfkaaGreatDoorHrRQ
import Derived.Test.YtnkbjbbaoddfkaaGreatDoorRvLQ
import Derived.Test.YtnkbjbbaoddfkaaGreatDoorFiCQ
import Derived.Test.YtnkbjbbaoddfkaaGreatDoorPpMQ
import Derived.Test.YtnkbjbbaoddfkaaGreatDoorPpRQ
import Derived.Test.YtnkbjbbaoddfkaaGreatDoorPqTQ
import Derived.Test.YtnkbjbbaoddfkaaGreatDoorIxBQ
import Derived.Test.YtnkbjbbaoddfkaaGreatDoorPqNQ
import Derived.Test.YtnkbjbbaoddfkaaGreatDoorPqQQ
import Derived.Test.YtnkbjbbaoddfkaaGreatDoorPqPQ
import Derived.WalkKit
import Derived.ProofKit
import Derived.Below
import Derived.WalkSpells
import Derived.WalkMore
import Derived.Maps.AppendAt
import Derived.Deep.CutRange
import Derived.Deep.RegionWith
import Derived.Deep.RegionHeld
import Derived.Deep.RegionLaw
set_option linter.unusedVariables false
namespace Go.Proofs.YtnkbjbbaoddfkaaGreatDoor.Pp
open Go.ChangeShapes Go.WideShapes Go.ChangeAt Go.RowKit

/-- The frame of readHunks. -/
def Fm (R H : Nat) (v4 v5 : Value) (a : Act) : Prop := ∃ u1 u3 u6 u7 u8 u9 u10 u11 u12 u13 u14 u15 u16 u17 u18 u19 u20 u21 u22 u23 u24 u25 u26 u27 u28 u29 u30 u31 u32 u33 u34 u35 u36 u37 u38 u39 u40 u41 u42 u43 u44 u45 u46 u47 u48 u49 u50 u51 u52 u53 u54 u55 u56 u57 u58 u59 u60 u61 u62 u63 u64 u65 u66 u67 u68 u69 u70 u71 u72 u73 u74 u75 u76 u77 u78 : Value, a = { tmps := #[.pointer (some ⟨R, 0, none⟩), u1, .pointer (some ⟨H, 0, none⟩), u3, v4, v5, u6, u7, u8, u9, u10, u11, u12, u13, u14, u15, u16, u17, u18, u19, u20, u21, u22, u23, u24, u25, u26, u27, u28, u29, u30, u31, u32, u33, u34, u35, u36, u37, u38, u39, u40, u41, u42, u43, u44, u45, u46, u47, u48, u49, u50, u51, u52, u53, u54, u55, u56, u57, u58, u59, u60, u61, u62, u63, u64, u65, u66, u67, u68, u69, u70, u71, u72, u73, u74, u75, u76, u77, u78], defers := [] }
def strN : Option Value → Nat
  | some (.string s) => s.size
  | _ => 0
theorem Cm.mu {t : ByteArray} {R H p c : Nat} {w wr : World} {a : Option Addr} {L : List Hk} {sl : Nat → Value} (h : Cm t R H w wr p a c L sl) : strN (wr.cell? ⟨R, 0, none⟩) = t.size - p := by
  rw [h.rf.at_ 0 _ rfl]
  exact rst_size t p
/-- What holds at the label head. -/
def J0 (t : ByteArray) (R H : Nat) (w : World) (a : Act) (wr : World) : Prop := ∃ (v4 v5 : Value) (p f : Nat) (ha : Option Addr) (hc : Nat) (L : List Hk) (sl : Nat → Value) (y0 y1 y2 : Value), Fm R H v4 v5 a ∧ Cm t R H w wr p ha hc L sl ∧ p ≤ t.size ∧ t.size < p + f ∧ L.length ≤ p ∧ Tiny t.size L ∧ pp t = (L ++ (ppL t f p).1, (ppL t f p).2) ∧ Rf wr H [y0, y1, y2]
/-- What holds at the label end. -/
def J1 (t : ByteArray) (R H : Nat) (w : World) (a : Act) (wr : World) : Prop := ∃ (v4 v5 : Value) (p0 p f : Nat) (ha : Option Addr) (hc : Nat) (L : List Hk) (sl : Nat → Value) (x0 x1 : Int) (v : Value) (ss : List ByteArray), Fm R H v4 v5 a ∧ Cm t R H w wr p ha hc L sl ∧ p ≤ t.size ∧ t.size < p0 + f ∧ p0 < p ∧ L.length ≤ p0 ∧ Tiny t.size L ∧ pp t = (L ++ (ppL t f p0).1, (ppL t f p0).2) ∧ Rw H wr x0 x1 v ss (.slice ha L.length hc) L sl ∧ hkP t p0 = some ((x0, x1, ss), p) ∧ Sh t p0 p ss
/-- What holds at the label body. -/
def J2 (t : ByteArray) (R H : Nat) (w : World) (a : Act) (wr : World) : Prop := ∃ (o n : Int) (p0 p f : Nat) (ha : Option Addr) (hc : Nat) (L : List Hk) (sl : Nat → Value) (x0 x1 : Int) (v : Value) (ss : List ByteArray), Fm R H (.int .i64 o) (.int .i64 n) a ∧ Cm t R H w wr p ha hc L sl ∧ p ≤ t.size ∧ t.size < p0 + f ∧ p0 < p ∧ L.length ≤ p0 ∧ Tiny t.size L ∧ pp t = (L ++ (ppL t f p0).1, (ppL t f p0).2) ∧ Rw H wr x0 x1 v ss (.slice ha L.length hc) L sl ∧ At2 t p0 p x0 x1 o n ss ∧ Sh t p0 p ss ∧ 0 ≤ o ∧ 0 ≤ n ∧ o < 10000 ∧ n < 10000
set_option maxRecDepth 20000 in
set_option maxHeartbeats 8000000 in
theorem readC : ReadC := by
  intro t R w hR hRs hg hP hTa hG ht
  obtain ⟨H, hH⟩ : ∃ H, w.heap.size = H := ⟨_, rfl⟩
  have hRH : R < H := by omega
  have gU : ∀ wr, Below R w wr → UnG wr := fun wr h => hg.below h (by omega)
  have gP : ∀ wr, Below R w wr → PeG wr := fun wr h => hP.below h (by omega) (by omega)
  have gT : ∀ wr, Below R w wr → TaG wr := fun wr h => hTa.below h (by omega)
  have ht' : t.size ≤ 1048576 := by omega
  obtain ⟨i0, hi, hz0, hz1, hz2⟩ := info_parts infoStr
  obtain ⟨i1, hi', hy0, hy1, hy2⟩ := info_parts infoHunk
  go_enter Tryz.func18, Tryz.ntmps18
  refine scope3k (J0 t R H w) (J1 t R H w) (J2 t R H w) (fun w => strN (w.cell? ⟨R, 0, none⟩)) rfl rfl rfl ?_ ?_ ?_ ?_
  · intro a wr hJ
    obtain ⟨v4, v5, p0, p, f, ha, hc, L, sl, x0, x1, v, ss, ⟨u1, u3, u6, u7, u8, u9, u10, u11, u12, u13, u14, u15, u16, u17, u18, u19, u20, u21, u22, u23, u24, u25, u26, u27, u28, u29, u30, u31, u32, u33, u34, u35, u36, u37, u38, u39, u40, u41, u42, u43, u44, u45, u46, u47, u48, u49, u50, u51, u52, u53, u54, u55, u56, u57, u58, u59, u60, u61, u62, u63, u64, u65, u66, u67, u68, u69, u70, u71, u72, u73, u74, u75, u76, u77, u78, rfl⟩, C, hpt, hf, hp0, hLp, hTi, hPP, W, hK, hS⟩ := hJ
    obtain ⟨va, vc, rfl⟩ := shapeS' W.own
    have hz := C.hz
    have m1 := C.rf.at_ 1 _ rfl
    have m1A := (rfA (o := .cells #[.int .i64 x0, .int .i64 x1, .slice va ss.length vc] 35) C.rf (by omega)).at_ 1 _ rfl
    have h0 := W.rf.at_ 0 _ rfl
    have h1 := W.rf.at_ 1 _ rfl
    have h2 := W.rf.at_ 2 _ rfl
    have hrow := C.ho.row
    have hL8 : L.length ≤ 8000 := by omega
    have hvb : ∀ j, (Value.slice ha L.length hc).ownBlock = some j → H + 1 ≤ j := fun j hj => (hrow.lt j hj).1
    have RA : ∀ ob, Rf (wr.alloc ob).drew R [.string (rst t p), .slice ha L.length hc] := fun ob => (rfA C.rf (by omega)).drew
    have hneA : some R ≠ (Value.slice ha L.length hc).ownBlock := fun e => by have := hvb R e.symm; omega
    have hltA : ∀ ob, R < (wr.alloc ob).drew.heap.size := fun ob => by show R < (wr.alloc ob).heap.size; simp; omega
    have HJ : Hid (Cm t R H w wr p ha hc L sl ∧ Tiny t.size L ∧ pp t = (L ++ (ppL t f p0).1, (ppL t f p0).2) ∧ Rw H wr x0 x1 (.slice va ss.length vc) ss (.slice ha L.length hc) L sl ∧ hkP t p0 = some ((x0, x1, ss), p) ∧ Sh t p0 p ss) := ⟨C, hTi, hPP, W, hK, hS⟩
    clear C hTi hPP W hK hS
    go_upto_region 22 with fail
    go_region_law (refine step_app2 rfl (.tmp 73) (.tmp 75) 25 rfl (H + 1) 35 i1 (.agg #[.int .i64 0, .int .i64 0, .slice none 0 0]) 3 40 Tryz.underlying25 hi' hy0 hy1 hy2 rfl (by decide) _ _ _ rfl ((hrow.alloc _).drew) ⟨wr.heap.size, 0, none⟩ 1 1 [.int .i64 x0, .int .i64 x1, .slice va ss.length vc] rfl rfl (newsRow wr #[.int .i64 x0, .int .i64 x1, .slice va ss.length vc] 35) (by simp [Value.oneCell']) (by unfold maxLen; omega) (by omega) (by show _ ≤ (wr.alloc _).heap.size; simp; omega) ?_; intro v' W5 p5 g5 k5; have R5 := (RA _).grown g5 hneA (hltA _); have m5 := R5.at_ 1 _ rfl; have y5 := R5.fz 1; obtain ⟨a5, c5, ev⟩ := shape3 p5; subst ev)
    all_goals
      obtain ⟨C, hTi, hPP, W, hK, hS⟩ := HJ.out
      obtain ⟨b5, d5, sl', e5, C5, z0, z1, z2, r5⟩ := Cm.hunk (C.drew hRH) (W.drew hz) hRH p5 g5 k5
      obtain ⟨g, hg1, hg2⟩ := pp_more hPP hf (by omega) hK hp0
      have HF : Hid (∀ a' v4 v5, Fm R H v4 v5 a' → J0 t R H w a' (W5.setCell ⟨R, 1, none⟩ (.slice a5 (L.length + 1) c5))) := fun a' v4 v5 h => ⟨v4, v5, p, g, b5, d5, _, sl', z0, z1, z2, h, C5, hpt, hg1, by rw [List.length_append, List.length_singleton]; omega, hTi.snoc hS hpt, hg2, r5⟩
      have HM : Hid (strN ((W5.setCell ⟨R, 1, none⟩ (.slice a5 (L.length + 1) c5)).cell? ⟨R, 0, none⟩) ≤ strN (wr.cell? ⟨R, 0, none⟩)) := by
        have e1 := C5.mu
        have e2 := C.mu
        show _ ≤ _
        omega
      clear C hTi hPP W hK hS HJ C5 r5
      try go_wp2
      try go_step3
      exact .inl ⟨rfl, HF.out _ _ _ ⟨_, _, _, _, _, _, _, _, _, _, _, _, _, _, _, _, _, _, _, _, _, _, _, _, _, _, _, _, _, _, _, _, _, _, _, _, _, _, _, _, _, _, _, _, _, _, _, _, _, _, _, _, _, _, _, _, _, _, _, _, _, _, _, _, _, _, _, _, _, _, _, _, _, _, _, rfl⟩, HM.out⟩
  · intro a wr hJ
    obtain ⟨o, n, p0, p, f, ha, hc, L, sl, x0, x1, v, ss, ⟨u1, u3, u6, u7, u8, u9, u10, u11, u12, u13, u14, u15, u16, u17, u18, u19, u20, u21, u22, u23, u24, u25, u26, u27, u28, u29, u30, u31, u32, u33, u34, u35, u36, u37, u38, u39, u40, u41, u42, u43, u44, u45, u46, u47, u48, u49, u50, u51, u52, u53, u54, u55, u56, u57, u58, u59, u60, u61, u62, u63, u64, u65, u66, u67, u68, u69, u70, u71, u72, u73, u74, u75, u76, u77, u78, rfl⟩, C, hpt, hf, hp0, hLp, hTi, hPP, W, hA, hS, ho0, hn0, ho1, hn1⟩ := hJ
    by_cases h0 : o = 0 ∧ n = 0
    · obtain ⟨rfl, rfl⟩ := h0
      have HJ : Hid (∀ a' v4 v5, Fm R H v4 v5 a' → J1 t R H w a' wr) := fun a' v4 v5 h => ⟨v4, v5, p0, p, f, ha, hc, L, sl, x0, x1, v, ss, h, C, hpt, hf, hp0, hLp, hTi, hPP, W, hA.done hpt, hS⟩
      clear C hTi hPP W hA hS
      go_wp2
      try go_step3
      exact .inr (.inl ⟨rfl, HJ.out _ _ _ ⟨_, _, _, _, _, _, _, _, _, _, _, _, _, _, _, _, _, _, _, _, _, _, _, _, _, _, _, _, _, _, _, _, _, _, _, _, _, _, _, _, _, _, _, _, _, _, _, _, _, _, _, _, _, _, _, _, _, _, _, _, _, _, _, _, _, _, _, _, _, _, _, _, _, _, _, rfl⟩, Nat.le_refl _⟩)
    have hgo : 0 < o ∨ 0 < n := by omega
    have hLn := takeLineC t p R (.slice ha L.length hc) wr C.rf (by have := C.hz; omega) (gU _ C.bl) (by have := C.hz; omega) ht' hpt
    have HJ : Hid (Cm t R H w wr p ha hc L sl ∧ Tiny t.size L ∧ pp t = (L ++ (ppL t f p0).1, (ppL t f p0).2) ∧ Rw H wr x0 x1 v ss (.slice ha L.length hc) L sl ∧ At2 t p0 p x0 x1 o n ss ∧ Sh t p0 p ss) := ⟨C, hTi, hPP, W, hA, hS⟩
    have hoo : (o = 0 ∧ ¬ n = 0) ∨ ¬ o = 0 := by omega
    clear C hTi hPP W hA hS h0
    rcases hoo with ⟨rfl, hn⟩ | ho
    · go_wp2_with fail
      refine hLn.mono ?_
      clear hLn
      obtain ⟨C, hTi, hPP, W, hA, hS⟩ := HJ.out
      rintro e w1 (⟨hl, ⟨T, u, rfl⟩, b1⟩ | ⟨s, q, w2, hl, rfl, b2, hw1⟩)
      · have HR : Hid (RhP t R w (.panicked [{ v := .iface T u, recovered := false }]) w1) := C.pan hRH b1 (pp_none hPP hf (by omega) (hA.no hpt hgo hl)) (by omega) ⟨T, u, rfl⟩
        clear C hTi hPP W hA hS
        go_wp2
        exact ⟨rfl, HR.out⟩
      · obtain ⟨hq1, hqt, hss, hok⟩ := lnP_bd hl
        have C2 : Cm t R H w w1 q ha hc L sl := by rw [hw1]; exact C.move hRH b2 q
        have W2 : Rw H w1 x0 x1 v ss (.slice ha L.length hc) L sl := by rw [hw1]; exact W.move hRH C.hz b2
        have hLs := okH_size hok
        have hq0 : (0 : Int) < (s.size : Int) := by omega
        have hss' : s.size ≤ 1048576 := by omega
        have hCo := fun w => countsOf (mark0 s) w
        have e1 := old1_bd (mark0 s)
        have e2 := new1_bd (mark0 s)
        have HM : Hid (strN (wr.cell? ⟨R, 0, none⟩) = t.size - p) := C.mu
        have HG : Hid (At2 t p0 q x0 x1 (0 - old1 (mark0 s)) (n - new1 (mark0 s)) (ss ++ [s])) := hA.go hpt hq1 hgo hl
        have HN : Hid (0 - old1 (mark0 s) < 0 ∨ n - new1 (mark0 s) < 0 → hkP t p0 = none) := fun h => hA.below0 hpt hgo hl h
        have HS : Hid (Sh t p0 q (ss ++ [s])) := hS.snoc hq1 hss
        have HC : Hid (Cm t R H w w1 q ha hc L sl ∧ Tiny t.size L ∧ pp t = (L ++ (ppL t f p0).1, (ppL t f p0).2) ∧ Rw H w1 x0 x1 v ss (.slice ha L.length hc) L sl) := ⟨C2, hTi, hPP, W2⟩
        obtain ⟨A, hA1⟩ : ∃ A, old1 (mark0 s) = A := ⟨_, rfl⟩
        obtain ⟨B, hB1⟩ : ∃ B, new1 (mark0 s) = B := ⟨_, rfl⟩
        rw [hA1] at hCo e1 HG HN
        rw [hB1] at hCo e2 HG HN
        rw [mark0_eq s hLs] at hCo
        obtain ⟨T, u, g0⟩ := gU _ C2.bl
        obtain ⟨va, vc, ev⟩ := shapeS' W2.own
        subst ev
        have k0 := W2.rf.at_ 2 _ rfl
        have kf := W2.rf.fz 2
        have OU := W2.own
        have hz := C2.hz
        have hvb : ∀ j, (Value.slice va ss.length vc).ownBlock = some j → H + 1 ≤ j := fun j hj => (OU.lt j hj).1
        have hRf := W2.rf
        have hsl : ss.length ≤ 8000 := by have := hS.1; omega
        clear C hTi hPP W hA hS C2 W2 hA1 hB1 hl hok hw1 b2
        go_wp2_with fail
        refine (hCo _).mono ?_; rintro e w1 ⟨rfl, rfl⟩
        clear hCo
        by_cases h1 : 0 < A
        · have HR : Hid (RhP t R w (.panicked [{ v := .iface T u, recovered := false }]) w1) := HC.out.1.pan hRH (Below.refl _ _) (pp_none HC.out.2.2.1 hf (by omega) (HN.out (by omega))) (by omega) ⟨T, u, rfl⟩
          clear k0 kf OU hRf hvb
          go_wp2
          exact ⟨rfl, HR.out⟩
        by_cases h2 : n < B
        · have HR : Hid (RhP t R w (.panicked [{ v := .iface T u, recovered := false }]) w1) := HC.out.1.pan hRH (Below.refl _ _) (pp_none HC.out.2.2.1 hf (by omega) (HN.out (by omega))) (by omega) ⟨T, u, rfl⟩
          clear k0 kf OU hRf hvb
          go_wp2
          exact ⟨rfl, HR.out⟩
        clear g0
        go_wp2_with (at_builtin; refine wpList_append_own_at _ rfl (.tmp 64) (.tmp 66) 33 rfl (H + 1) 9 i0 (.string ⟨#[]⟩) 1 16 Tryz.underlying33 hi hz0 hz1 hz2 rfl (by decide) _ _ _ rfl (OU.alloc _) ⟨w1.heap.size, 0, none⟩ 1 1 [.string s] rfl rfl (cell_one_new _ _ _) (by simp [Value.oneCell']) (by unfold maxLen; omega) (by omega) (by simp; omega) ?_; intro v5 w5 o5 g5 _ k5; obtain ⟨ua, uc, hu⟩ := shapeS' o5; subst hu; have Q65 := rfG (rfA hRf (by omega)) g5 hvb ⟨by omega, by simp; omega⟩; have k5c := Q65.at_ 2 _ rfl; have k5f := Q65.fz 2)
        obtain ⟨C2, hTi, hPP, W2⟩ := HC.out
        obtain ⟨C5, W5⟩ := Rw.line C2 W2 hRH o5 g5 k5
        have HF : Hid (∀ a' z4 z5, z4 = 0 - A → z5 = n - B → Fm R H (.int .i64 z4) (.int .i64 z5) a' → J2 t R H w a' (w5.setCell ⟨H, 2, none⟩ (.slice ua (ss.length + 1) uc))) := by
          intro a' z4 z5 q4 q5 h
          subst q4
          subst q5
          exact ⟨0 - A, n - B, p0, q, f, ha, hc, L, sl, x0, x1, _, ss ++ [s], h, C5, hqt, hf, by omega, hLp, hTi, hPP, W5, HG.out, HS.out, by omega, by omega, by omega, by omega⟩
        have HM2 : Hid (strN ((w5.setCell ⟨H, 2, none⟩ (.slice ua (ss.length + 1) uc)).cell? ⟨R, 0, none⟩) < strN (wr.cell? ⟨R, 0, none⟩)) := by
          have q1 := C5.mu
          have q2 := HM.out
          show _ < _
          omega
        clear C2 hTi hPP W2 C5 W5 HG HN HS HC HM o5 g5 k5 Q65 k5c k5f k0 kf OU hRf hvb
        try go_wp2
        try go_step3
        exact .inr (.inr ⟨rfl, HF.out _ _ _ (by go_num) (by go_num) ⟨_, _, _, _, _, _, _, _, _, _, _, _, _, _, _, _, _, _, _, _, _, _, _, _, _, _, _, _, _, _, _, _, _, _, _, _, _, _, _, _, _, _, _, _, _, _, _, _, _, _, _, _, _, _, _, _, _, _, _, _, _, _, _, _, _, _, _, _, _, _, _, _, _, _, _, rfl⟩, HM2.out⟩)
    · go_wp2_with fail
      refine hLn.mono ?_
      clear hLn
      obtain ⟨C, hTi, hPP, W, hA, hS⟩ := HJ.out
      rintro e w1 (⟨hl, ⟨T, u, rfl⟩, b1⟩ | ⟨s, q, w2, hl, rfl, b2, hw1⟩)
      · have HR : Hid (RhP t R w (.panicked [{ v := .iface T u, recovered := false }]) w1) := C.pan hRH b1 (pp_none hPP hf (by omega) (hA.no hpt hgo hl)) (by omega) ⟨T, u, rfl⟩
        clear C hTi hPP W hA hS
        go_wp2
        exact ⟨rfl, HR.out⟩
      · obtain ⟨hq1, hqt, hss, hok⟩ := lnP_bd hl
        have C2 : Cm t R H w w1 q ha hc L sl := by rw [hw1]; exact C.move hRH b2 q
        have W2 : Rw H w1 x0 x1 v ss (.slice ha L.length hc) L sl := by rw [hw1]; exact W.move hRH C.hz b2
        have hLs := okH_size hok
        have hq0 : (0 : Int) < (s.size : Int) := by omega
        have hss' : s.size ≤ 1048576 := by omega
        have hCo := fun w => countsOf (mark0 s) w
        have e1 := old1_bd (mark0 s)
        have e2 := new1_bd (mark0 s)
        have HM : Hid (strN (wr.cell? ⟨R, 0, none⟩) = t.size - p) := C.mu
        have HG : Hid (At2 t p0 q x0 x1 (o - old1 (mark0 s)) (n - new1 (mark0 s)) (ss ++ [s])) := hA.go hpt hq1 hgo hl
        have HN : Hid (o - old1 (mark0 s) < 0 ∨ n - new1 (mark0 s) < 0 → hkP t p0 = none) := fun h => hA.below0 hpt hgo hl h
        have HS : Hid (Sh t p0 q (ss ++ [s])) := hS.snoc hq1 hss
        have HC : Hid (Cm t R H w w1 q ha hc L sl ∧ Tiny t.size L ∧ pp t = (L ++ (ppL t f p0).1, (ppL t f p0).2) ∧ Rw H w1 x0 x1 v ss (.slice ha L.length hc) L sl) := ⟨C2, hTi, hPP, W2⟩
        obtain ⟨A, hA1⟩ : ∃ A, old1 (mark0 s) = A := ⟨_, rfl⟩
        obtain ⟨B, hB1⟩ : ∃ B, new1 (mark0 s) = B := ⟨_, rfl⟩
        rw [hA1] at hCo e1 HG HN
        rw [hB1] at hCo e2 HG HN
        rw [mark0_eq s hLs] at hCo
        obtain ⟨T, u, g0⟩ := gU _ C2.bl
        obtain ⟨va, vc, ev⟩ := shapeS' W2.own
        subst ev
        have k0 := W2.rf.at_ 2 _ rfl
        have kf := W2.rf.fz 2
        have OU := W2.own
        have hz := C2.hz
        have hvb : ∀ j, (Value.slice va ss.length vc).ownBlock = some j → H + 1 ≤ j := fun j hj => (OU.lt j hj).1
        have hRf := W2.rf
        have hsl : ss.length ≤ 8000 := by have := hS.1; omega
        clear C hTi hPP W hA hS C2 W2 hA1 hB1 hl hok hw1 b2
        go_wp2_with fail
        refine (hCo _).mono ?_; rintro e w1 ⟨rfl, rfl⟩
        clear hCo
        by_cases h1 : o < A
        · have HR : Hid (RhP t R w (.panicked [{ v := .iface T u, recovered := false }]) w1) := HC.out.1.pan hRH (Below.refl _ _) (pp_none HC.out.2.2.1 hf (by omega) (HN.out (by omega))) (by omega) ⟨T, u, rfl⟩
          clear k0 kf OU hRf hvb
          go_wp2
          exact ⟨rfl, HR.out⟩
        by_cases h2 : n < B
        · have HR : Hid (RhP t R w (.panicked [{ v := .iface T u, recovered := false }]) w1) := HC.out.1.pan hRH (Below.refl _ _) (pp_none HC.out.2.2.1 hf (by omega) (HN.out (by omega))) (by omega) ⟨T, u, rfl⟩
          clear k0 kf OU hRf hvb
          go_wp2
          exact ⟨rfl, HR.out⟩
        clear g0
        go_wp2_with (at_builtin; refine wpList_append_own_at _ rfl (.tmp 64) (.tmp 66) 33 rfl (H + 1) 9 i0 (.string ⟨#[]⟩) 1 16 Tryz.underlying33 hi hz0 hz1 hz2 rfl (by decide) _ _ _ rfl (OU.alloc _) ⟨w1.heap.size, 0, none⟩ 1 1 [.string s] rfl rfl (cell_one_new _ _ _) (by simp [Value.oneCell']) (by unfold maxLen; omega) (by omega) (by simp; omega) ?_; intro v5 w5 o5 g5 _ k5; obtain ⟨ua, uc, hu⟩ := shapeS' o5; subst hu; have Q65 := rfG (rfA hRf (by omega)) g5 hvb ⟨by omega, by simp; omega⟩; have k5c := Q65.at_ 2 _ rfl; have k5f := Q65.fz 2)
        obtain ⟨C2, hTi, hPP, W2⟩ := HC.out
        obtain ⟨C5, W5⟩ := Rw.line C2 W2 hRH o5 g5 k5
        have HF : Hid (∀ a' z4 z5, z4 = o - A → z5 = n - B → Fm R H (.int .i64 z4) (.int .i64 z5) a' → J2 t R H w a' (w5.setCell ⟨H, 2, none⟩ (.slice ua (ss.length + 1) uc))) := by
          intro a' z4 z5 q4 q5 h
          subst q4
          subst q5
          exact ⟨o - A, n - B, p0, q, f, ha, hc, L, sl, x0, x1, _, ss ++ [s], h, C5, hqt, hf, by omega, hLp, hTi, hPP, W5, HG.out, HS.out, by omega, by omega, by omega, by omega⟩
        have HM2 : Hid (strN ((w5.setCell ⟨H, 2, none⟩ (.slice ua (ss.length + 1) uc)).cell? ⟨R, 0, none⟩) < strN (wr.cell? ⟨R, 0, none⟩)) := by
          have q1 := C5.mu
          have q2 := HM.out
          show _ < _
          omega
        clear C2 hTi hPP W2 C5 W5 HG HN HS HC HM o5 g5 k5 Q65 k5c k5f k0 kf OU hRf hvb
        try go_wp2
        try go_step3
        exact .inr (.inr ⟨rfl, HF.out _ _ _ (by go_num) (by go_num) ⟨_, _, _, _, _, _, _, _, _, _, _, _, _, _, _, _, _, _, _, _, _, _, _, _, _, _, _, _, _, _, _, _, _, _, _, _, _, _, _, _, _, _, _, _, _, _, _, _, _, _, _, _, _, _, _, _, _, _, _, _, _, _, _, _, _, _, _, _, _, _, _, _, _, _, _, rfl⟩, HM2.out⟩)
  · intro P2 a wr hJ
    obtain ⟨v4, v5, p, f, ha, hc, L, sl, y0, y1, y2, ⟨u1, u3, u6, u7, u8, u9, u10, u11, u12, u13, u14, u15, u16, u17, u18, u19, u20, u21, u22, u23, u24, u25, u26, u27, u28, u29, u30, u31, u32, u33, u34, u35, u36, u37, u38, u39, u40, u41, u42, u43, u44, u45, u46, u47, u48, u49, u50, u51, u52, u53, u54, u55, u56, u57, u58, u59, u60, u61, u62, u63, u64, u65, u66, u67, u68, u69, u70, u71, u72, u73, u74, u75, u76, u77, u78, rfl⟩, C, hpt, hf, hLp, hTi, hPP, r⟩ := hJ
    have d0 := C.rf.at_ 0 _ rfl
    by_cases hend : p = t.size
    · have hq : (rst t p).toList.isEmpty = true := by
        rw [ByteArray.toList_eq, rst_data, List.drop_of_length_le (by rw [size_eq]; omega)]
        rfl
      have HR : Hid (RhP t R w (.returned (.tuple #[])) wr) := C.fin hRH (pp_all' hPP hf (by omega) hpt) (by omega) hTi
      generalize rst t p = Y at hq d0
      clear C hTi hPP r P2
      go_wp2
      refine bodyPost_ret (v := .tuple #[]) (by simp [results, Tryz.results18, go_sem]) rfl ?_
      exact HR.out
    have hpl : p < t.size := by omega
    have hq : (rst t p).toList.isEmpty = false := by
      rw [ByteArray.toList_eq, rst_data]
      cases e : List.drop p t.data.toList with
      | nil =>
        have := congrArg List.length e
        rw [List.length_drop, size_eq] at this
        simp at this
        omega
      | cons _ _ => rfl
    have HM : Hid (strN (wr.cell? ⟨R, 0, none⟩) = t.size - p) := C.mu
    have c0 := r.at_ 0 _ rfl
    have c1 := r.at_ 1 _ rfl
    have c2 := r.at_ 2 _ rfl
    have f0 := r.fz 0
    have f1 := r.fz 1
    have f2 := r.fz 2
    obtain ⟨U, hU⟩ : ∃ U, ((wr.setCell ⟨H, 0, none⟩ (.int .i64 0)).setCell ⟨H, 1, none⟩ (.int .i64 0)).setCell ⟨H, 2, none⟩ (.slice none 0 0) = U := ⟨_, rfl⟩
    replace C : Cm t R H w U p ha hc L sl := by rw [← hU]; exact ((C.put hRH 0 _).put hRH 1 _).put hRH 2 _
    replace r : Rf U H [.int .i64 0, .int .i64 0, .slice none 0 0] := by rw [← hU]; exact ((r.set (o := 0) (by simp) _).set (o := 1) (by simp) _).set (o := 2) (by simp) _
    replace hPP : Hid (pp t = (L ++ (ppL t f p).1, (ppL t f p).2)) := hPP
    obtain ⟨q0, hq0e⟩ : ∃ q0, q0 = p := ⟨_, rfl⟩
    have hq0 : q0 ≤ t.size := by omega
    have HK : Hid (fstK t p 0 = some ([], q0)) := by rw [hq0e]; exact rfl
    have hg0 : p ≤ q0 := by omega
    generalize rst t p = Y at hq d0
    replace C : Cm t R H w U q0 ha hc L sl := by rw [hq0e]; exact C
    have hT := takeC t ⟨#[64, 64, 32, 45]⟩ q0 R (.slice ha L.length hc) U C.rf (gU _ C.bl)
    go_wp2_with fail
    refine hT.mono ?_
    clear hT
    rintro e w1 (⟨hw, ⟨T, u, rfl⟩, hw1⟩ | ⟨q, hw, hqs, rfl, hw1⟩)
    · have HR : Hid (RhP t R w (.panicked [{ v := .iface T u, recovered := false }]) U) := by
        exact C.pan hRH (Below.refl _ _) (pp_none hPP.out hf hpl (hk_none (fst_badW HK.out hw (by decide)))) (by omega) ⟨T, u, rfl⟩
      clear C r
      go_wp2
      exact ⟨rfl, HR.out⟩
    have hqt : q ≤ t.size := by
      obtain ⟨q', e1, e2, _⟩ := wd_bd (t := t) (w := mkW 0) (a := q0) hq0 (by have : wd t (mkW 0) q0 = (q : Int) := hw; omega)
      have : wd t (mkW 0) q0 = (q : Int) := hw
      omega
    have hqg : q0 ≤ q := by omega
    replace C : Cm t R H w w1 q ha hc L sl := by rw [hw1]; exact C.move hRH (Below.refl _ _) q
    replace r : Rf w1 H [.int .i64 0, .int .i64 0, .slice none 0 0] := by rw [hw1]; exact r.other (by omega) _
    have hN := takeNumberC t q R (.slice ha L.length hc) w1 C.rf (by have := C.hz; omega) (gU _ C.bl) (gP _ C.bl) (gT _ C.bl) (by have := C.hz; omega) ht' hqt
    have HW : Hid (wd t (mkW 0) q0 = (q : Int)) := hw
    clear hw hw1 hU
    go_wp2_with fail
    refine hN.mono ?_
    clear hN
    rintro e w2 (⟨hn, ⟨T, u, rfl⟩, b⟩ | ⟨q1, w3, hn, rfl, b, hw2⟩)
    · have HR : Hid (RhP t R w (.panicked [{ v := .iface T u, recovered := false }]) w2) := C.pan hRH b (pp_none hPP.out hf hpl (hk_none (fst_badN HK.out HW.out hn (by decide)))) (by omega) ⟨T, u, rfl⟩
      clear C r
      go_wp2
      exact ⟨rfl, HR.out⟩
    replace HK : Hid (fstK t p 1 = some ([nmV t q], q1)) := fst_step HK.out HW.out hn
    obtain ⟨hq1, hg1, b0⟩ : q1 ≤ t.size ∧ q < q1 ∧ (0 ≤ nmV t q ∧ nmV t q < 10000) := by
      obtain ⟨q', e1, e2, e3, e4, e5⟩ := nm_bd hqt (by omega)
      exact ⟨by omega, by omega, e4, e5⟩
    replace r : Rf w2 H [.int .i64 0, .int .i64 0, .slice none 0 0] := by rw [hw2]; exact (r.below C.hz b).other (by omega) _
    replace C : Cm t R H w w2 q1 ha hc L sl := by rw [hw2]; exact C.move hRH b q1
    obtain ⟨N0, hN0⟩ : ∃ N, nmV t q = N := ⟨_, rfl⟩
    rw [hN0] at b0 HK
    rw [hN0]
    clear hN0 hn hw2 b HW hqt
    have c0 := r.at_ 0 _ rfl
    have y0 := r.fz 0
    obtain ⟨U, hU⟩ : ∃ U, w2.setCell ⟨H, 0, none⟩ (.int .i64 N0) = U := ⟨_, rfl⟩
    replace C : Cm t R H w U q1 ha hc L sl := by rw [← hU]; exact C.put hRH 0 _
    replace r : Rf U H [.int .i64 N0, .int .i64 0, .slice none 0 0] := by rw [← hU]; exact r.set (o := 0) (by simp) _
    have hT := takeC t ⟨#[44]⟩ q1 R (.slice ha L.length hc) U C.rf (gU _ C.bl)
    go_wp2_with fail
    refine hT.mono ?_
    clear hT
    rintro e w1 (⟨hw, ⟨T, u, rfl⟩, hw1⟩ | ⟨q, hw, hqs, rfl, hw1⟩)
    · have HR : Hid (RhP t R w (.panicked [{ v := .iface T u, recovered := false }]) U) := by
        exact C.pan hRH (Below.refl _ _) (pp_none hPP.out hf hpl (hk_none (fst_badW HK.out hw (by decide)))) (by omega) ⟨T, u, rfl⟩
      clear C r
      go_wp2
      exact ⟨rfl, HR.out⟩
    have hqt : q ≤ t.size := by
      obtain ⟨q', e1, e2, _⟩ := wd_bd (t := t) (w := mkW 1) (a := q1) hq1 (by have : wd t (mkW 1) q1 = (q : Int) := hw; omega)
      have : wd t (mkW 1) q1 = (q : Int) := hw
      omega
    have hqg : q1 ≤ q := by omega
    replace C : Cm t R H w w1 q ha hc L sl := by rw [hw1]; exact C.move hRH (Below.refl _ _) q
    replace r : Rf w1 H [.int .i64 N0, .int .i64 0, .slice none 0 0] := by rw [hw1]; exact r.other (by omega) _
    have hN := takeNumberC t q R (.slice ha L.length hc) w1 C.rf (by have := C.hz; omega) (gU _ C.bl) (gP _ C.bl) (gT _ C.bl) (by have := C.hz; omega) ht' hqt
    have HW : Hid (wd t (mkW 1) q1 = (q : Int)) := hw
    clear hw hw1 hU
    go_wp2_with fail
    refine hN.mono ?_
    clear hN
    rintro e w2 (⟨hn, ⟨T, u, rfl⟩, b⟩ | ⟨q2, w3, hn, rfl, b, hw2⟩)
    · have HR : Hid (RhP t R w (.panicked [{ v := .iface T u, recovered := false }]) w2) := C.pan hRH b (pp_none hPP.out hf hpl (hk_none (fst_badN HK.out HW.out hn (by decide)))) (by omega) ⟨T, u, rfl⟩
      clear C r
      go_wp2
      exact ⟨rfl, HR.out⟩
    replace HK : Hid (fstK t p 2 = some ([N0, nmV t q], q2)) := fst_step HK.out HW.out hn
    obtain ⟨hq2, hg2, b1⟩ : q2 ≤ t.size ∧ q < q2 ∧ (0 ≤ nmV t q ∧ nmV t q < 10000) := by
      obtain ⟨q', e1, e2, e3, e4, e5⟩ := nm_bd hqt (by omega)
      exact ⟨by omega, by omega, e4, e5⟩
    replace r : Rf w2 H [.int .i64 N0, .int .i64 0, .slice none 0 0] := by rw [hw2]; exact (r.below C.hz b).other (by omega) _
    replace C : Cm t R H w w2 q2 ha hc L sl := by rw [hw2]; exact C.move hRH b q2
    obtain ⟨N1, hN1⟩ : ∃ N, nmV t q = N := ⟨_, rfl⟩
    rw [hN1] at b1 HK
    rw [hN1]
    clear hN1 hn hw2 b HW hqt
    obtain ⟨U, hU⟩ : ∃ U, U = w2 := ⟨_, rfl⟩
    subst hU
    have hU : True := trivial
    have hT := takeC t ⟨#[32, 43]⟩ q2 R (.slice ha L.length hc) U C.rf (gU _ C.bl)
    go_wp2_with fail
    refine hT.mono ?_
    clear hT
    rintro e w1 (⟨hw, ⟨T, u, rfl⟩, hw1⟩ | ⟨q, hw, hqs, rfl, hw1⟩)
    · have HR : Hid (RhP t R w (.panicked [{ v := .iface T u, recovered := false }]) U) := by
        exact C.pan hRH (Below.refl _ _) (pp_none hPP.out hf hpl (hk_none (fst_badW HK.out hw (by decide)))) (by omega) ⟨T, u, rfl⟩
      clear C r
      go_wp2
      exact ⟨rfl, HR.out⟩
    have hqt : q ≤ t.size := by
      obtain ⟨q', e1, e2, _⟩ := wd_bd (t := t) (w := mkW 2) (a := q2) hq2 (by have : wd t (mkW 2) q2 = (q : Int) := hw; omega)
      have : wd t (mkW 2) q2 = (q : Int) := hw
      omega
    have hqg : q2 ≤ q := by omega
    replace C : Cm t R H w w1 q ha hc L sl := by rw [hw1]; exact C.move hRH (Below.refl _ _) q
    replace r : Rf w1 H [.int .i64 N0, .int .i64 0, .slice none 0 0] := by rw [hw1]; exact r.other (by omega) _
    have hN := takeNumberC t q R (.slice ha L.length hc) w1 C.rf (by have := C.hz; omega) (gU _ C.bl) (gP _ C.bl) (gT _ C.bl) (by have := C.hz; omega) ht' hqt
    have HW : Hid (wd t (mkW 2) q2 = (q : Int)) := hw
    clear hw hw1 hU
    go_wp2_with fail
    refine hN.mono ?_
    clear hN
    rintro e w2 (⟨hn, ⟨T, u, rfl⟩, b⟩ | ⟨q3, w3, hn, rfl, b, hw2⟩)
    · have HR : Hid (RhP t R w (.panicked [{ v := .iface T u, recovered := false }]) w2) := C.pan hRH b (pp_none hPP.out hf hpl (hk_none (fst_badN HK.out HW.out hn (by decide)))) (by omega) ⟨T, u, rfl⟩
      clear C r
      go_wp2
      exact ⟨rfl, HR.out⟩
    replace HK : Hid (fstK t p 3 = some ([N0, N1, nmV t q], q3)) := fst_step HK.out HW.out hn
    obtain ⟨hq3, hg3, b2⟩ : q3 ≤ t.size ∧ q < q3 ∧ (0 ≤ nmV t q ∧ nmV t q < 10000) := by
      obtain ⟨q', e1, e2, e3, e4, e5⟩ := nm_bd hqt (by omega)
      exact ⟨by omega, by omega, e4, e5⟩
    replace r : Rf w2 H [.int .i64 N0, .int .i64 0, .slice none 0 0] := by rw [hw2]; exact (r.below C.hz b).other (by omega) _
    replace C : Cm t R H w w2 q3 ha hc L sl := by rw [hw2]; exact C.move hRH b q3
    obtain ⟨N2, hN2⟩ : ∃ N, nmV t q = N := ⟨_, rfl⟩
    rw [hN2] at b2 HK
    rw [hN2]
    clear hN2 hn hw2 b HW hqt
    have c0 := r.at_ 1 _ rfl
    have y0 := r.fz 1
    obtain ⟨U, hU⟩ : ∃ U, w2.setCell ⟨H, 1, none⟩ (.int .i64 N2) = U := ⟨_, rfl⟩
    replace C : Cm t R H w U q3 ha hc L sl := by rw [← hU]; exact C.put hRH 1 _
    replace r : Rf U H [.int .i64 N0, .int .i64 N2, .slice none 0 0] := by rw [← hU]; exact r.set (o := 1) (by simp) _
    have hT := takeC t ⟨#[44]⟩ q3 R (.slice ha L.length hc) U C.rf (gU _ C.bl)
    go_wp2_with fail
    refine hT.mono ?_
    clear hT
    rintro e w1 (⟨hw, ⟨T, u, rfl⟩, hw1⟩ | ⟨q, hw, hqs, rfl, hw1⟩)
    · have HR : Hid (RhP t R w (.panicked [{ v := .iface T u, recovered := false }]) U) := by
        exact C.pan hRH (Below.refl _ _) (pp_none hPP.out hf hpl (hk_none (fst_badW HK.out hw (by decide)))) (by omega) ⟨T, u, rfl⟩
      clear C r
      go_wp2
      exact ⟨rfl, HR.out⟩
    have hqt : q ≤ t.size := by
      obtain ⟨q', e1, e2, _⟩ := wd_bd (t := t) (w := mkW 3) (a := q3) hq3 (by have : wd t (mkW 3) q3 = (q : Int) := hw; omega)
      have : wd t (mkW 3) q3 = (q : Int) := hw
      omega
    have hqg : q3 ≤ q := by omega
    replace C : Cm t R H w w1 q ha hc L sl := by rw [hw1]; exact C.move hRH (Below.refl _ _) q
    replace r : Rf w1 H [.int .i64 N0, .int .i64 N2, .slice none 0 0] := by rw [hw1]; exact r.other (by omega) _
    have hN := takeNumberC t q R (.slice ha L.length hc) w1 C.rf (by have := C.hz; omega) (gU _ C.bl) (gP _ C.bl) (gT _ C.bl) (by have := C.hz; omega) ht' hqt
    have HW : Hid (wd t (mkW 3) q3 = (q : Int)) := hw
    clear hw hw1 hU
    go_wp2_with fail
    refine hN.mono ?_
    clear hN
    rintro e w2 (⟨hn, ⟨T, u, rfl⟩, b⟩ | ⟨q4, w3, hn, rfl, b, hw2⟩)
    · have HR : Hid (RhP t R w (.panicked [{ v := .iface T u, recovered := false }]) w2) := C.pan hRH b (pp_none hPP.out hf hpl (hk_none (fst_badN HK.out HW.out hn (by decide)))) (by omega) ⟨T, u, rfl⟩
      clear C r
      go_wp2
      exact ⟨rfl, HR.out⟩
    replace HK : Hid (fstK t p 4 = some ([N0, N1, N2, nmV t q], q4)) := fst_step HK.out HW.out hn
    obtain ⟨hq4, hg4, b3⟩ : q4 ≤ t.size ∧ q < q4 ∧ (0 ≤ nmV t q ∧ nmV t q < 10000) := by
      obtain ⟨q', e1, e2, e3, e4, e5⟩ := nm_bd hqt (by omega)
      exact ⟨by omega, by omega, e4, e5⟩
    replace r : Rf w2 H [.int .i64 N0, .int .i64 N2, .slice none 0 0] := by rw [hw2]; exact (r.below C.hz b).other (by omega) _
    replace C : Cm t R H w w2 q4 ha hc L sl := by rw [hw2]; exact C.move hRH b q4
    obtain ⟨N3, hN3⟩ : ∃ N, nmV t q = N := ⟨_, rfl⟩
    rw [hN3] at b3 HK
    rw [hN3]
    clear hN3 hn hw2 b HW hqt
    obtain ⟨U, hU⟩ : ∃ U, U = w2 := ⟨_, rfl⟩
    subst hU
    have hU : True := trivial
    have hT := takeC t ⟨#[32, 64, 64, 10]⟩ q4 R (.slice ha L.length hc) U C.rf (gU _ C.bl)
    go_wp2_with fail
    refine hT.mono ?_
    clear hT
    rintro e w1 (⟨hw, ⟨T, u, rfl⟩, hw1⟩ | ⟨q, hw, hqs, rfl, hw1⟩)
    · have HR : Hid (RhP t R w (.panicked [{ v := .iface T u, recovered := false }]) U) := by
        exact C.pan hRH (Below.refl _ _) (pp_none hPP.out hf hpl (hk_none (fst_bad4 HK.out hw))) (by omega) ⟨T, u, rfl⟩
      clear C r
      go_wp2
      exact ⟨rfl, HR.out⟩
    have hqt : q ≤ t.size := by
      obtain ⟨q', e1, e2, _⟩ := wd_bd (t := t) (w := mkW 4) (a := q4) hq4 (by have : wd t (mkW 4) q4 = (q : Int) := hw; omega)
      have : wd t (mkW 4) q4 = (q : Int) := hw
      omega
    have hqg : q4 ≤ q := by omega
    have hE : Hid (At2 t p q N0 N2 N1 N3 []) := ⟨t.size + 1, by omega, hk_some (fst_end HK.out hw)⟩
    have C2 : Cm t R H w w1 q ha hc L sl := by rw [hw1]; exact C.move hRH (Below.refl _ _) q
    have r2 : Rf w1 H [.int .i64 N0, .int .i64 N2, .slice none 0 0] := by rw [hw1]; exact r.other (by omega) _
    have HF : Hid (∀ a', Fm R H (.int .i64 N1) (.int .i64 N3) a' → J2 t R H w a' w1) := fun a' h => ⟨N1, N3, p, q, f, ha, hc, L, sl, N0, N2, .slice none 0 0, [], h, C2, hqt, hf, by omega, hLp, hTi, hPP.out, ⟨r2, ⟨rfl, .inl ⟨rfl, rfl⟩⟩, fun j c1 => (by cases c1), fun k hk j c1 => (by cases c1)⟩, hE.out, ⟨by simp; omega, fun s hs => (by cases hs)⟩, b1.1, b3.1, b1.2, b3.2⟩
    have HM2 : Hid (strN (w1.cell? ⟨R, 0, none⟩) < strN (wr.cell? ⟨R, 0, none⟩)) := by
      have e1 := C2.mu
      have e2 := HM.out
      show _ < _
      omega
    clear C r C2 r2 hE HK hPP HM hw1 hU
    try go_wp2
    try go_step3
    simp only [Exit.then]
    rename_i K hK
    refine hK _ _ ?_
    exact P2 _ _ _ (HF.out _ ⟨_, _, _, _, _, _, _, _, _, _, _, _, _, _, _, _, _, _, _, _, _, _, _, _, _, _, _, _, _, _, _, _, _, _, _, _, _, _, _, _, _, _, _, _, _, _, _, _, _, _, _, _, _, _, _, _, _, _, _, _, _, _, _, _, _, _, _, _, _, _, _, _, _, _, _, rfl⟩) HM2.out
  · intro P0
    obtain ⟨W1, hW1⟩ : ∃ W, w.alloc (.cells #[.int .i64 0, .int .i64 0, .slice none 0 0] 35) = W := ⟨_, rfl⟩
    have b1 : Below w.heap.size w W1 := by rw [← hW1]; exact allocBelow _ _
    have r1 : Rf W1 H [.int .i64 0, .int .i64 0, .slice none 0 0] := by rw [← hW1, ← hH]; exact Rf.new _ _ _
    have z1 : W1.heap.size = H + 1 := by rw [← hW1, ← hH]; simp
    have e0 : rst t 0 = t := by
      apply bytes_inj2
      rw [ByteArray.toList_eq, ByteArray.toList_eq, rst_data]
      rfl
    have C : Cm t R H w W1 0 none 0 [] (fun _ => .slice none 0 0) := by
      refine ⟨?_, HO.nil _ _ _, b1.mono (by omega), by omega⟩
      rw [e0]
      exact hR.below hRs b1
    have HF : Hid (∀ a' v4 v5, Fm R H v4 v5 a' → J0 t R H w a' W1) := fun a' v4 v5 h => ⟨v4, v5, 0, t.size + 1, none, 0, [], _, _, _, _, h, C, Nat.zero_le _, by omega, Nat.le_refl _, fun x hx => (by cases hx), rfl, r1⟩
    clear C r1 b1 e0
    go_wp2
    go_step3
    simp only [Exit.then]
    rename_i K hK
    refine hK _ _ ?_
    exact P0 _ _ (HF.out _ _ _ ⟨_, _, _, _, _, _, _, _, _, _, _, _, _, _, _, _, _, _, _, _, _, _, _, _, _, _, _, _, _, _, _, _, _, _, _, _, _, _, _, _, _, _, _, _, _, _, _, _, _, _, _, _, _, _, _, _, _, _, _, _, _, _, _, _, _, _, _, _, _, _, _, _, _, _, _, rfl⟩)
end Go.Proofs.YtnkbjbbaoddfkaaGreatDoor.Pp
