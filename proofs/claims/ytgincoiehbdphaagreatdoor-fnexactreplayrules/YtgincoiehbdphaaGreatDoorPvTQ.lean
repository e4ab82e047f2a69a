/- PreOf of the specification: the answer. No statement is proved here. -/
import Derived.Test.YtgincoiehbdphaaGreatDoorSsBQ
import Derived.Test.YtgincoiehbdphaaGreatDoorPvDQ
set_option linter.unusedVariables false
namespace Go.Proofs.YtgincoiehbdphaaGreatDoor.Pv
open Go.ChangeShapes Go.WideShapes Go.ChangeAt Go.RowKit
theorem litTx (w : World) : (w.alloc (.cells #[] 9)).ownsRow w.heap.size 9 1 (.slice (some ⟨w.heap.size, 0, none⟩) 0 0) ([] : List ByteArray).length (([] : List ByteArray).map Value.string) := World.ownsRow_lit w #[] 0 (Nat.le_refl _) (Nat.zero_le _) rfl
def tsK (st : List Ob) (fs : List Fl.Ob) (k : Nat) : List ByteArray := (fs.take k).map (tx st)
theorem rfAt {b p : Nat} {w w' : World} {vs : List Value} (h : Rf w p vs) (hb : Below b w w') (hp : p < b) : Rf w' p vs :=
 ⟨fun k v hk => (hb.cell (p := ⟨p, k, none⟩) hp).trans (h.at_ k v hk), fun k => (hb.frozen (p := ⟨p, k, none⟩) hp).trans (h.fz k)⟩
theorem keep2 {u : World} {p g o o1 o2 : Nat} {v1 v2 x : Value} (hc : u.cell? ⟨g, o, none⟩ = some x) (h : g ≠ p) : ((u.setCell ⟨p, o1, none⟩ v1).setCell ⟨p, o2, none⟩ v2).cell? ⟨g, o, none⟩ = some x :=
 (grownTrans (grownSet u p o1 v1) (grownSet _ p o2 v2)).cell hc (by simpa using h)
theorem tsK_len {st : List Ob} {fs : List Fl.Ob} {k : Nat} (h : k <= fs.length) : (tsK st fs k).length = k := by unfold tsK; rw [List.length_map, List.length_take]; omega
theorem tsK_next {st : List Ob} {fs : List Fl.Ob} {k : Nat} (h : k < fs.length) : tsK st fs (k + 1) = tsK st fs k ++ [tx st (fs.getD k Fl.onil)] := by unfold tsK; rw [Fl.ob_take fs k h, List.map_append]; rfl
theorem fin10 {B0 : Nat} {st : List Ob} {fs : List Fl.Ob} {k : Nat} {X : ByteArray} {w : World} {v : Value} (o : w.ownsRow B0 9 1 v (tsK st fs k ++ [X]).length ((tsK st fs k ++ [X]).map Value.string)) (hl : Hid ((tsK st fs k).length = k)) (hn : Hid (tsK st fs (k + 1) = tsK st fs k ++ [X])) :
  ∃ ug uc m1, v = .slice (some ⟨ug, 0, none⟩) m1 uc /\ Hid (k + 1 = m1) /\ w.cell? ⟨ug, k, none⟩ = some (.string X) /\ Hid (w.ownsRow B0 9 1 (.slice (some ⟨ug, 0, none⟩) m1 uc) m1 ((tsK st fs m1).map Value.string)) /\ (k : Int) < (m1 : Int) := by
 have hl10 : (tsK st fs k ++ [X]).length = k + 1 := by rw [List.length_append, hl.out]; rfl
 rw [hl10] at o
 obtain ⟨ug, uc, rfl⟩ : ∃ ug uc, v = .slice (some ⟨ug, 0, none⟩) (k + 1) uc := by
  rcases o.2 with ⟨_, hh⟩ | ⟨g, c, cur, e, _⟩
  ·omega
  ·exact ⟨g, c, e⟩
 refine ⟨ug, uc, k + 1, rfl, rfl, ?_, by show World.ownsRow _ _ _ _ _ _ _; rw [hn.out]; exact o, by omega⟩
 rw [o.cellAt k (by omega), List.map_append, List.getElem?_append_right (by rw [List.length_map, hl.out]; exact Nat.le_refl _), List.length_map, hl.out, Nat.sub_self]
 rfl
theorem rowFl (f0 f2 g0 g2 h0 h2 : ByteArray) (f1 g1 h1 : Int) (w : World) : Fl.OB (w.alloc (.cells #[.string f0, .int .i64 f1, .string f2, .string g0, .int .i64 g1, .string g2, .string h0, .int .i64 h1, .string h2] 34)).heap.size (w.alloc (.cells #[.string f0, .int .i64 f1, .string f2, .string g0, .int .i64 g1, .string g2, .string h0, .int .i64 h1, .string h2] 34)) (some ⟨w.heap.size, 0, none⟩) [((f0, f1, f2) : Fl.Ob), (g0, g1, g2), (h0, h1, h2)] := by
 have R := Rs.new w #[.string f0, .int .i64 f1, .string f2, .string g0, .int .i64 g1, .string g2, .string h0, .int .i64 h1, .string h2] 34
 have hs : w.heap.size < (w.alloc (.cells #[.string f0, .int .i64 f1, .string f2, .string g0, .int .i64 g1, .string g2, .string h0, .int .i64 h1, .string h2] 34)).heap.size := by simp
 intro k hk
 have e : k = 0 \/ k = 1 \/ k = 2 := by
  have : k < 3 := hk
  omega
 rcases e with rfl | rfl | rfl
 ·exact ⟨w.heap.size, 0, rfl, hs, R 0 _ rfl, R 1 _ rfl, R 2 _ rfl⟩
 ·exact ⟨w.heap.size, 0, rfl, hs, R 3 _ rfl, R 4 _ rfl, R 5 _ rfl⟩
 ·exact ⟨w.heap.size, 0, rfl, hs, R 6 _ rfl, R 7 _ rfl, R 8 _ rfl⟩
set_option maxRecDepth 20000 in
set_option maxHeartbeats 8000000 in
theorem l13PreOfC (a : Option Addr) (c : Nat) (st : List Ob) (a2 : Option Addr) (c2 : Nat) (l : List En.Ob) (p : ByteArray) (w : World) (h : OB w.heap.size w a st) (hz : sf st = 0) (hs : SmallO st) (hn : st.length <= 1048576) (h2 : En.OB w.heap.size w a2 l) (hn2 : l.length <= 1048576) :
  Calls Tryz.prog 57 #[.slice a st.length c, .slice a2 l.length c2, .string p] w fun e w' => e = .returned (.agg #[.int .i64 (pvC st (En.vf l p 1) (En.vf l p 2) (En.vf l p 3)), .string (pvT st (En.vf l p 1) (En.vf l p 2) (En.vf l p 3))]) /\ Below w.heap.size w w' := by
 obtain ⟨q, hq⟩ : ∃ q, w.heap.size = q := ⟨_, rfl⟩
 have HQ : Hid (w.heap.size = q) := hq
 obtain ⟨W1, hW1⟩ : ∃ W, (w.alloc (.cells #[.int .i64 0, .string ⟨#[]⟩] 98)).alloc (.cells #[.string ⟨#[]⟩, .int .i64 0, .string ⟨#[]⟩] 34) = W := ⟨_, rfl⟩
 have za : (w.alloc (.cells #[.int .i64 0, .string ⟨#[]⟩] 98)).heap.size = q + 1 := by rw [<- hq]; simp
 have b1 : Below q w W1 := by rw [<- hW1, <- hq]; exact ((Below.refl _ _).alloc (Nat.le_refl _) _).alloc (by simp) _
 have rb : Rf W1 q [.int .i64 0, .string ⟨#[]⟩] := by rw [<- hW1, <- hq]; exact (Rf.new w #[.int .i64 0, .string ⟨#[]⟩] _).below (by simp) (allocBelow _ _)
 have rn : Rf W1 (q + 1) [.string ⟨#[]⟩, .int .i64 0, .string ⟨#[]⟩] := by rw [<- hW1, <- za]; exact Rf.new _ #[.string ⟨#[]⟩, .int .i64 0, .string ⟨#[]⟩] _
 have z1 : q + 2 <= W1.heap.size := by rw [<- hW1, <- hq]; simp
 have HRR : Hid (∀ W, Below q w W -> OB W.heap.size W a st /\ En.OB W.heap.size W a2 l) := fun W bW => by
  rw [<- hq] at bW
  exact ⟨(h.below bW).mono bW.size, (h2.below bW).mono bW.size⟩
 clear h h2
 obtain ⟨F, hF⟩ : ∃ F, En.vf l p 1 = F := ⟨_, rfl⟩
 obtain ⟨G, hG⟩ : ∃ F, En.vf l p 2 = F := ⟨_, rfl⟩
 obtain ⟨H, hH⟩ : ∃ F, En.vf l p 3 = F := ⟨_, rfl⟩
 have hS1 := fun W y => l13StageC a2 c2 l p 1 W y hn2
 have hS2 := fun W y => l13StageC a2 c2 l p 2 W y hn2
 have hS3 := fun W y => l13StageC a2 c2 l p 3 W y hn2
 unfold FQ at hS1 hS2 hS3
 rw [hF] at hS1
 rw [hG] at hS2
 rw [hH] at hS3
 rw [hF, hG, hH]
 clear hF hG hH
 obtain ⟨f0, f1, f2⟩ := F
 obtain ⟨g0, g1, g2⟩ := G
 obtain ⟨h0, h1, h2⟩ := H
 simp only [] at hS1 hS2 hS3
 obtain ⟨_, x2⟩ := HRR.out W1 b1
 have hS1' := hS1 W1 x2
 have n0 := rn.at_ 0 _ rfl
 have n1 := rn.at_ 1 _ rfl
 have n2 := rn.at_ 2 _ rfl
 have i0 := rn.fz 0
 have i1 := rn.fz 1
 have i2 := rn.fz 2
 have sid0 := En.setCell_id n0
 have sid1 := En.setCell_id n1
 have sid2 := En.setCell_id n2
 clear hS1 x2 za
 go_enter Tryz.func57, Tryz.ntmps57
 go_wp2_with fail
 refine hS1'.mono ?_; rintro e w2 ⟨rfl, b2⟩
 have B2 : Below q w w2 := b1.trans (b2.mono (by omega))
 have rb2 := rb.below (by omega) b2
 have rn2 := rn.below (by omega) b2
 have z2 := Nat.le_trans z1 b2.size
 obtain ⟨_, x2⟩ := HRR.out w2 B2
 have hS2' := hS2 w2 x2
 clear hS1' hW1 hq b1 b2 rb rn z1 hS2 x2 n0 n1 n2 i0 i1 i2 sid0 sid1 sid2
 go_wp2_with fail
 refine hS2'.mono ?_; rintro e w3 ⟨rfl, b3⟩
 have B3 : Below q w w3 := B2.trans (b3.mono (by omega))
 have rb3 := rb2.below (by omega) b3
 have rn3 := rn2.below (by omega) b3
 have z3 := Nat.le_trans z2 b3.size
 obtain ⟨_, x2⟩ := HRR.out w3 B3
 have hS3' := hS3 w3 x2
 clear hS2' B2 b3 rb2 rn2 z2 hS3 x2
 go_wp2_with fail
 refine hS3'.mono ?_; rintro e w4 ⟨rfl, b4⟩
 have B4 : Below q w w4 := B3.trans (b4.mono (by omega))
 have rb4 := rb3.below (by omega) b4
 have rn4 := rn3.below (by omega) b4
 have z4 := Nat.le_trans z3 b4.size
 have RL := Rs.new w4 #[.string f0, .int .i64 f1, .string f2, .string g0, .int .i64 g1, .string g2, .string h0, .int .i64 h1, .string h2] 34
 have OL := rowFl f0 f2 g0 g2 h0 h2 f1 g1 h1 w4
 obtain ⟨W5, hW5⟩ : ∃ W, w4.alloc (.cells #[.string f0, .int .i64 f1, .string f2, .string g0, .int .i64 g1, .string g2, .string h0, .int .i64 h1, .string h2] 34) = W := ⟨_, rfl⟩
 have bN := allocBelow w4 (.cells #[.string f0, .int .i64 f1, .string f2, .string g0, .int .i64 g1, .string g2, .string h0, .int .i64 h1, .string h2] 34)
 rw [hW5] at RL OL bN
 obtain ⟨lb, hlb⟩ : ∃ lb, w4.heap.size = lb := ⟨_, rfl⟩
 have B5 : Below q w W5 := B4.trans (bN.mono (by omega))
 have rb5 := rb4.below (by omega) bN
 have rn5 := rn4.below (by omega) bN
 have z5 := Nat.le_trans z4 bN.size
 rw [hlb] at RL OL
 clear hS3' B3 b4 rb3 rn3 z3 B4 rb4 rn4 z4 bN
 have l3 := RL 3 _ rfl
 have l4 := RL 4 _ rfl
 have l5 := RL 5 _ rfl
 have l6 := RL 6 _ rfl
 have l7 := RL 7 _ rfl
 have l8 := RL 8 _ rfl
 have n0 := rn5.at_ 0 _ rfl
 have n1 := rn5.at_ 1 _ rfl
 have n2 := rn5.at_ 2 _ rfl
 obtain ⟨LS, hLS⟩ : ∃ LS, less3 st (f0, f1, f2) (g0, g1, g2) (h0, h1, h2) = LS := ⟨_, rfl⟩
 have hsm := som3 (f0, f1, f2) (g0, g1, g2) (h0, h1, h2)
 obtain ⟨OS, _⟩ := HRR.out W5 B5
 go_upto_region 3 with fail
 go_cut [40] from 22 to 40 (fun s wx => s = .bool LS /\ Below W5.heap.size W5 wx)
 case first =>
  clear hW5 hlb RL B5 rb5 rn5 HRR
  by_cases eg : ((g0, g1, g2) : Fl.Ob) = Fl.onil
  ·have hE := Fl.ef_nil eg
   have HL : Hid (LS = true) := hLS.symm.trans (less_g eg)
   clear eg hLS
   go_quiet (fail)
   go_wp2_with fail
   go_meet
   exact ⟨by rw [HL.out], below_drewN' (Below.refl _ _) _⟩
  by_cases eh : ((h0, h1, h2) : Fl.Ob) = Fl.onil
  ·have hE := Fl.ef_some eg
   have hE2 := Fl.ef_nil eh
   have HL : Hid (LS = true) := hLS.symm.trans (less_h eh)
   clear eg eh hLS
   go_quiet (fail)
   go_wp2_with fail
   go_meet
   exact ⟨by rw [HL.out], below_drewN' (Below.refl _ _) _⟩
  have hE := Fl.ef_some eg
  have hE2 := Fl.ef_some eh
  have HL : Hid (LS = !hbF st (som [((f0, f1, f2) : Fl.Ob), (g0, g1, g2), (h0, h1, h2)])) := hLS.symm.trans (less_b eg eh)
  clear eg eh hLS
  have hSo := fun W y => l11SomeC (some ⟨lb, 0, none⟩) 3 [((f0, f1, f2) : Fl.Ob), (g0, g1, g2), (h0, h1, h2)] W y (by simp)
  have OD : Fl.OB W5.drew.heap.size W5.drew (some ⟨lb, 0, none⟩) [((f0, f1, f2) : Fl.Ob), (g0, g1, g2), (h0, h1, h2)] := OL
  have BD : Below W5.heap.size W5 W5.drew := (Below.refl _ _).drew
  have SD : OB W5.drew.heap.size W5.drew a st := OS
  obtain ⟨SL, hSL⟩ : ∃ SL, som [((f0, f1, f2) : Fl.Ob), (g0, g1, g2), (h0, h1, h2)] = SL := ⟨_, rfl⟩
  rw [hSL] at hSo HL hsm
  have hlen : ([((f0, f1, f2) : Fl.Ob), (g0, g1, g2), (h0, h1, h2)]).length = 3 := rfl
  rw [hlen] at hSo
  clear hSL hlen OL OS
  go_region_held (fun w' => w'.cell? ⟨lb, 3, none⟩ = some (.string g0) /\ w'.cell? ⟨lb, 4, none⟩ = some (.int .i64 g1) /\ w'.cell? ⟨lb, 5, none⟩ = some (.string g2) /\ w'.cell? ⟨lb, 6, none⟩ = some (.string h0) /\ w'.cell? ⟨lb, 7, none⟩ = some (.int .i64 h1) /\ w'.cell? ⟨lb, 8, none⟩ = some (.string h2) /\ w'.cell? ⟨q + 1, 0, none⟩ = some (.string ⟨#[]⟩) /\ w'.cell? ⟨q + 1, 1, none⟩ = some (.int .i64 0) /\ w'.cell? ⟨q + 1, 2, none⟩ = some (.string ⟨#[]⟩)) (first | with_reducible exact ⟨l3, l4, l5, l6, l7, l8, n0, n1, n2⟩ | with_reducible exact ⟨m3, m4, m5, m6, m7, m8, p0, p1, p2⟩ | exact ⟨l3, l4, l5, l6, l7, l8, n0, n1, n2⟩)
   (first
    | (go_at_call 31; refine (hSo _ OD).mono ?_; rintro e wa ⟨va, rfl, oa, ba⟩; obtain ⟨xa, xc, rfl⟩ := En.shapeK3 oa; have m3 := zS ba l3; have m4 := zS ba l4; have m5 := zS ba l5; have m6 := zS ba l6; have m7 := zS ba l7; have m8 := zS ba l8; have p0 := zS ba n0; have p1 := zS ba n1; have p2 := zS ba n2; have SE : OB wa.heap.size wa a st := (SD.below ba).mono ba.size; have Bt : Below W5.heap.size W5 wa := BD.trans (ba.mono BD.size))
    | (go_at_call 33; refine (l11Blobs a c st xa xc SL _ SE (Fl.OB.of oa) hn (by omega)).mono ?_; rintro e wb ⟨rfl, hwb⟩; subst hwb))
  all_goals (go_wp2_with fail; go_meet; exact ⟨by rw [HL.out], by assumption⟩)
 case rest =>
 obtain ⟨rfl, b6⟩ := hcut
 obtain ⟨w6, hw6⟩ : ∃ w6, wc = w6 := ⟨_, rfl⟩
 rw [hw6] at b6 ⊢
 clear hw6
 have B6 : Below q w w6 := B5.trans (b6.mono (by omega))
 have rb6 := rb5.below (by omega) b6
 have OL6 := (OL.below b6).mono b6.size
 have z6 := Nat.le_trans z5 b6.size
 clear hW5 hlb RL B5 rb5 rn5 b6 z5 OL OS l3 l4 l5 l6 l7 l8 n0 n1 n2 hsm
 cases LS with
 | true =>
  have HC : Hid (pvC st (f0, f1, f2) (g0, g1, g2) (h0, h1, h2) = 4 /\ pvT st (f0, f1, f2) (g0, g1, g2) (h0, h1, h2) = ⟨#[]⟩) := pv_less hLS
  clear hLS HRR OL6
  have y0 := rb6.at_ 0 _ rfl
  have y1 := rb6.at_ 1 _ rfl
  have k0 := rb6.fz 0
  have k1 := rb6.fz 1
  have RV := (rb6.set (o := 0) (by simp) (.int .i64 4)).set (o := 1) (by simp) (.string ⟨#[]⟩)
  have BV := (B6.setCell (p := ⟨q, 0, none⟩) (Nat.le_refl _) (.int .i64 4)).setCell (p := ⟨q, 1, none⟩) (Nat.le_refl _) (.string ⟨#[]⟩)
  obtain ⟨V, hV⟩ : ∃ V, (w6.setCell ⟨q, 0, none⟩ (.int .i64 4)).setCell ⟨q, 1, none⟩ (.string ⟨#[]⟩) = V := ⟨_, rfl⟩
  rw [hV] at RV BV
  have HVV : Hid (_ = V) := hV
  have v0 := RV.at_ 0 _ rfl
  have v1 := RV.at_ 1 _ rfl
  clear hV RV rb6 B6
  go_wp2
  rw [HVV.out]
  refine bodyPost_ret (v := .agg #[.int .i64 4, .string ⟨#[]⟩]) (by simp [results, Tryz.results57, go_sem, v0, v1]) rfl ?_
  exact po_of HQ.out HC.out.1 HC.out.2 BV
 | false =>
  have HBI : Hid (∀ k, k < 3 -> binB (tx st ([((f0, f1, f2) : Fl.Ob), (g0, g1, g2), (h0, h1, h2)].getD k Fl.onil)).data.toList = true -> pvC st (f0, f1, f2) (g0, g1, g2) (h0, h1, h2) = 1 /\ pvT st (f0, f1, f2) (g0, g1, g2) (h0, h1, h2) = ⟨#[]⟩) := fun k hk e => pv_bin hLS (bin_hit hk e)
  have HTX : Hid ((∀ j, j < 3 -> binB (tx st ([((f0, f1, f2) : Fl.Ob), (g0, g1, g2), (h0, h1, h2)].getD j Fl.onil)).data.toList = false) -> pvC st (f0, f1, f2) (g0, g1, g2) (h0, h1, h2) = No.noC (tx st (f0, f1, f2)) (tx st (g0, g1, g2)) (tx st (h0, h1, h2)) /\ pvT st (f0, f1, f2) (g0, g1, g2) (h0, h1, h2) = No.noX (tx st (f0, f1, f2)) (tx st (g0, g1, g2)) (tx st (h0, h1, h2))) := fun e => pv_text hLS (bin_none e)
  have HT3 : Hid (tsK st [((f0, f1, f2) : Fl.Ob), (g0, g1, g2), (h0, h1, h2)] 3 = [tx st (f0, f1, f2), tx st (g0, g1, g2), tx st (h0, h1, h2)]) := rfl
  clear hLS
  obtain ⟨fs, hfs⟩ : ∃ fs, [((f0, f1, f2) : Fl.Ob), (g0, g1, g2), (h0, h1, h2)] = fs := ⟨_, rfl⟩
  have HFL : Hid (fs.length = 3) := by show _ = _; rw [<- hfs]; rfl
  rw [hfs] at HBI HTX HT3 OL6
  clear hfs
  obtain ⟨B0, hB0⟩ : ∃ B0, w6.heap.size = B0 := ⟨_, rfl⟩
  obtain ⟨W7, hW7⟩ : ∃ W, w6.alloc (.cells #[] 9) = W := ⟨_, rfl⟩
  have b7 : Below B0 w6 W7 := by rw [<- hW7, <- hB0]; exact allocBelow _ _
  have o7 : W7.ownsRow B0 9 1 (.slice (some ⟨B0, 0, none⟩) 0 0) 0 ((tsK st fs 0).map Value.string) := by rw [<- hW7, <- hB0]; exact litTx w6
  have zq : q + 2 <= B0 := by omega
  have B7 : Below q w W7 := B6.trans (b7.mono (by omega))
  have rb7 : Rf W7 q [.int .i64 0, .string ⟨#[]⟩] := rfAt rb6 b7 (by omega)
  have OL7 : Fl.OB B0 W7 (some ⟨lb, 0, none⟩) fs := by rw [<- hB0] at b7 ⊢; exact OL6.below b7
  have z7 : B0 <= W7.heap.size := by have := b7.size; omega
  clear B6 rb6 OL6 z6 b7
  go_wp2
  clear hW7 hB0
  go_loopw [9, 10] (fun o i wr => ∃ (k tg tc : Nat), k <= 3 /\ i = .int .i64 k /\ o = .slice (some ⟨tg, 0, none⟩) k tc /\ wr.ownsRow B0 9 1 (.slice (some ⟨tg, 0, none⟩) k tc) k ((tsK st fs k).map Value.string) /\ Below B0 W7 wr /\ Hid (∀ j, j < k -> binB (tx st (fs.getD j Fl.onil)).data.toList = false)) (fun _ i _ => 3 - (intOf i).toNat)
  case atStart => exact ⟨0, B0, 0, Nat.zero_le _, rfl, rfl, o7, Below.refl _ _, fun j hj => absurd hj (by omega)⟩
  case round =>
   obtain ⟨k, tg, tc, hk, rfl, rfl, ho, hbel, hN⟩ := hrel
   clear o7
   have hsz : B0 <= wr.heap.size := Nat.le_trans z7 hbel.size
   have Bw : Below q w wr := B7.trans (hbel.mono (by omega))
   by_cases hlt : k < 3
   ·have qk : (k : Int) < 3 := by omega
    have hkl : k < fs.length := by rw [HFL.out]; exact hlt
    obtain ⟨g', off, e, hg', d0, d1, d2⟩ := (flBelowAt OL7 hbel (Nat.le_refl _)) k hkl
    simp only [Option.some.injEq, Addr.mk.injEq, and_true] at e
    obtain ⟨rfl, rfl⟩ := e
    have hnx := tsK_next (st := st) hkl
    have hln := tsK_len (st := st) (Nat.le_of_lt hkl)
    have hbn := HBI.out k hlt
    obtain ⟨C, hC⟩ : ∃ C, fs.getD k Fl.onil = C := ⟨_, rfl⟩
    obtain ⟨x0, x1, x2⟩ := C
    rw [hC] at d0 d1 d2 hnx hbn
    simp only [Nat.zero_add] at d0 d1 d2
    obtain ⟨x3, _⟩ := HRR.out wr Bw
    have hTx := l11TextC a c st (x0, x1, x2) wr x3 hz hn
    simp only [] at hTx
    have hIB := fun W => specIsBinary (tx st (x0, x1, x2)) W (by have := tx_size hs (x0, x1, x2); unfold maxLen; omega)
    have HNN : Hid (binB (tx st (x0, x1, x2)).data.toList = false -> ∀ j, j < k + 1 -> binB (tx st (fs.getD j Fl.onil)).data.toList = false) := fun e j hj => by
     by_cases t : j = k
     ·rw [t, hC]; exact e
     ·exact hN.out j (by omega)
    obtain ⟨X, hX⟩ : ∃ X, tx st (x0, x1, x2) = X := ⟨_, rfl⟩
    rw [hX] at hTx hnx hbn HNN hIB
    have HNX : Hid (tsK st fs (k + 1) = tsK st fs k ++ [X]) := hnx
    have HLN : Hid ((tsK st fs k).length = k) := hln
    clear hC hX hN hkl hnx hln x3 Bw
    go_wp2_with fail
    refine hTx.mono ?_; rintro e w8 ⟨rfl, b8⟩
    have o8 := ho.kept (grownOfBelow b8 none) (blockCases _ _ fun b c1 c2 => by cases c2)
    have B8 : Below B0 W7 w8 := hbel.trans (b8.mono hsz)
    have z8 := Nat.le_trans hsz b8.size
    have bN := allocBelow w8 (.cells #[.string X] 9)
    have nw := En.newT w8 X
    have o9 : (w8.alloc (.cells #[.string X] 9)).ownsRow B0 9 1 (.slice (some ⟨tg, 0, none⟩) k tc) (tsK st fs k).length ((tsK st fs k).map Value.string) := by rw [HLN.out]; exact o8.kept (grownOfBelow bN none) (blockCases _ _ fun b c1 c2 => by cases c2)
    have B9 : Below B0 W7 (w8.alloc (.cells #[.string X] 9)) := B8.trans (bN.mono z8)
    have z9 := Nat.le_trans z8 bN.size
    clear hTx b8 ho hbel hsz o8 B8 bN d0 d1 d2
    go_wp2_with (at_builtin; refine En.wpList_appT rfl (.tmp 47) (.tmp 54) rfl B0 (.slice (some ⟨tg, 0, none⟩) k tc) (tsK st fs k) rfl o9 _ _ [X] rfl nw (by rw [HLN.out]; simp; omega) z9 ?_; intro v10 w10 o10 g10 n10 k10; obtain ⟨ug, uc, m1, rfl, HM1, hld, O10, qk1⟩ := fin10 o10 HLN HNX)
    have B10 : Below B0 W7 w10 := B9.grown g10 z9 (fun j hj => (o9.lt j hj).1)
    clear o9 B9 z9 g10 n10 k10 o10 nw HNX HLN z8
    cases hbx : binB X.data.toList with
    | true =>
     rw [hbx] at hIB
     have HC : Hid (pvC st (f0, f1, f2) (g0, g1, g2) (h0, h1, h2) = 1 /\ pvT st (f0, f1, f2) (g0, g1, g2) (h0, h1, h2) = ⟨#[]⟩) := hbn hbx
     refine (hIB _).mono ?_; rintro e w10 ⟨rfl, rfl⟩
     have rb10 : Rf w10 q [.int .i64 0, .string ⟨#[]⟩] := rfAt rb7 B10 (by omega)
     have BB10 : Below q w w10 := B7.trans (B10.mono (by omega))
     clear hIB hbn hbx HNN hld O10 B10 HTX HT3 HBI
     have y0 := rb10.at_ 0 _ rfl
     have y1 := rb10.at_ 1 _ rfl
     have k0 := rb10.fz 0
     have k1 := rb10.fz 1
     have RV := (rb10.set (o := 0) (by simp) (.int .i64 1)).set (o := 1) (by simp) (.string ⟨#[]⟩)
     have BV := (BB10.setCell (p := ⟨q, 0, none⟩) (Nat.le_refl _) (.int .i64 1)).setCell (p := ⟨q, 1, none⟩) (Nat.le_refl _) (.string ⟨#[]⟩)
     obtain ⟨V, hV⟩ : ∃ V, (w10.setCell ⟨q, 0, none⟩ (.int .i64 1)).setCell ⟨q, 1, none⟩ (.string ⟨#[]⟩) = V := ⟨_, rfl⟩
     rw [hV] at RV BV
     have HVV : Hid (_ = V) := hV
     have v0 := RV.at_ 0 _ rfl
     have v1 := RV.at_ 1 _ rfl
     clear hV RV rb10 BB10
     go_wp2
     rw [HVV.out]
     refine bodyPost_ret (v := .agg #[.int .i64 1, .string ⟨#[]⟩]) (by simp [results, Tryz.results57, go_sem, v0, v1]) rfl ?_
     exact po_of HQ.out HC.out.1 HC.out.2 BV
    | false =>
     rw [hbx] at hIB
     have HG := HNN.out hbx
     refine (hIB _).mono ?_; rintro e w10 ⟨rfl, rfl⟩
     have HG2 : Hid (∀ j, j < k + 1 -> binB (tx st (fs.getD j Fl.onil)).data.toList = false) := HG
     clear hIB hbn hbx HNN hld HG
     go_wp2
     go_roundw
     case rel => exact ⟨m1, ug, uc, by have := HM1.out; omega, by rw [<- HM1.out]; go_num, by first | rfl | trivial, O10.out, B10, by rw [<- HM1.out]; exact HG2⟩
     case measure => first | (simp [intOf]; omega) | simp [intOf]
   ·have qk : ¬ (k : Int) < 3 := by omega
    have ek : k = 3 := by omega
    subst ek
    have HC0 := HTX.out hN.out
    rw [HT3.out] at ho
    have s0 := tx_size hs (f0, f1, f2)
    have s1 := tx_size hs (g0, g1, g2)
    have s2 := tx_size hs (h0, h1, h2)
    obtain ⟨t0, ht0⟩ : ∃ t, tx st (f0, f1, f2) = t := ⟨_, rfl⟩
    obtain ⟨t1, ht1⟩ : ∃ t, tx st (g0, g1, g2) = t := ⟨_, rfl⟩
    obtain ⟨t2, ht2⟩ : ∃ t, tx st (h0, h1, h2) = t := ⟨_, rfl⟩
    rw [ht0, ht1, ht2] at ho HC0
    rw [ht0] at s0
    rw [ht1] at s1
    rw [ht2] at s2
    have hNT := fun W => No.specNormalText t0 t1 t2 W s0 s1 s2
    obtain ⟨C, hC⟩ : ∃ C, No.noC t0 t1 t2 = C := ⟨_, rfl⟩
    obtain ⟨X, hX⟩ : ∃ X, No.noX t0 t1 t2 = X := ⟨_, rfl⟩
    rw [hC, hX] at HC0 hNT
    have HC : Hid (pvC st (f0, f1, f2) (g0, g1, g2) (h0, h1, h2) = C /\ pvT st (f0, f1, f2) (g0, g1, g2) (h0, h1, h2) = X) := HC0
    have y0 : wr.cell? ⟨tg, 0, none⟩ = some (.string t0) := ho.cellAt 0 (by omega)
    have y1 : wr.cell? ⟨tg, 1, none⟩ = some (.string t1) := ho.cellAt 1 (by omega)
    have y2 : wr.cell? ⟨tg, 2, none⟩ = some (.string t2) := ho.cellAt 2 (by omega)
    have htg : tg ≠ q := by have := (ho.lt tg rfl).1; omega
    have rbw : Rf wr q [.int .i64 0, .string ⟨#[]⟩] := rfAt rb7 hbel (by omega)
    have BD : Below wr.heap.size wr wr.drew := (Below.refl _ _).drew
    clear ht0 ht1 ht2 hC hX HC0 HTX HT3 HBI hN ho hbel
    go_wp2_with fail
    go_region_held (fun w' => w'.cell? ⟨tg, 0, none⟩ = some (.string t0) /\ w'.cell? ⟨tg, 1, none⟩ = some (.string t1) /\ w'.cell? ⟨tg, 2, none⟩ = some (.string t2)) (first | with_reducible exact ⟨y0, y1, y2⟩ | with_reducible exact ⟨m0, m1, m2⟩ | with_reducible exact ⟨p0, p1, p2⟩ | exact ⟨y0, y1, y2⟩)
     ((go_at_call 102; refine (hNT _).mono ?_; rintro e w9 ⟨rfl, b9⟩; have m0 := zS b9 y0; have m1 := zS b9 y1; have m2 := zS b9 y2; have Bt : Below wr.heap.size wr w9 := BD.trans (b9.mono BD.size); have rb9 := rbw.below (by omega) Bt; have j0 := rb9.at_ 0 _ rfl; have j1 := rb9.at_ 1 _ rfl; have i0 := rb9.fz 0; have i1 := rb9.fz 1; have p0 : ((w9.setCell ⟨q, 0, none⟩ (.int .i64 C)).setCell ⟨q, 1, none⟩ (.string X)).cell? ⟨tg, 0, none⟩ = some (.string t0) := keep2 m0 htg; have p1 : ((w9.setCell ⟨q, 0, none⟩ (.int .i64 C)).setCell ⟨q, 1, none⟩ (.string X)).cell? ⟨tg, 1, none⟩ = some (.string t1) := keep2 m1 htg; have p2 : ((w9.setCell ⟨q, 0, none⟩ (.int .i64 C)).setCell ⟨q, 1, none⟩ (.string X)).cell? ⟨tg, 2, none⟩ = some (.string t2) := keep2 m2 htg))
    all_goals
     have RV := (rb9.set (o := 0) (by simp) (.int .i64 C)).set (o := 1) (by simp) (.string X)
     have BV := ((Bw.trans (Bt.mono (by omega))).setCell (p := ⟨q, 0, none⟩) (Nat.le_refl _) (.int .i64 C)).setCell (p := ⟨q, 1, none⟩) (Nat.le_refl _) (.string X)
     obtain ⟨V, hV⟩ : ∃ V, (w9.setCell ⟨q, 0, none⟩ (.int .i64 C)).setCell ⟨q, 1, none⟩ (.string X) = V := ⟨_, rfl⟩
     rw [hV] at RV BV ⊢
     have v0 := RV.at_ 0 _ rfl
     have v1 := RV.at_ 1 _ rfl
     clear hV RV rb9 Bt
     go_wp2
     refine bodyPost_ret (v := .agg #[.int .i64 C, .string X]) (by simp [results, Tryz.results57, go_sem, v0, v1]) rfl ?_
     exact po_of HQ.out HC.out.1 HC.out.2 BV
end Go.Proofs.YtgincoiehbdphaaGreatDoor.Pv
