/- The texts of a path, merged. No statement is proved here. -/
import Derived.Test.YtcfnkndbhpdfnaaGreatDoorTmCQ
set_option linter.unusedVariables false
namespace Go.Proofs.YtcfnkndbhpdfnaaGreatDoor.Tm
open Go.ChangeShapes Go.WideShapes Go.ChangeAt Go.RowKit
open Go.Proofs.YtcfnkndbhpdfnaaGreatDoor.Pv
def RT (W1 : World) (bi : Bool) (t0 t1 t2 : ByteArray) (s b : Value) (wx : World) : Prop := b = .bool (!bi) /\ ∃ g u0 u1 u2, s = .pointer (some ⟨g, 0, none⟩) /\ Rf wx g [.string u0, .string u1, .string u2] /\ g < wx.heap.size /\ Below W1.heap.size W1 wx /\ (bi = false -> u0 = t0 /\ u1 = t1 /\ u2 = t2)
theorem RT.new {W1 wa : World} {bi : Bool} {t0 t1 t2 u0 u1 u2 : ByteArray} {t : TypeId} (b : Below W1.heap.size W1 wa) (hu : bi = false -> u0 = t0 /\ u1 = t1 /\ u2 = t2) : RT W1 bi t0 t1 t2 (.pointer (some ⟨wa.heap.size, 0, none⟩)) (.bool (!bi)) (wa.alloc (.cells #[.string u0, .string u1, .string u2] t)) :=
 ⟨rfl, wa.heap.size, u0, u1, u2, rfl, Rf.new _ #[.string u0, .string u1, .string u2] _, by simp, b.alloc b.size _, hu⟩
theorem RT.sets {W1 wa : World} {bi : Bool} {t0 t1 t2 u0 u1 u2 : ByteArray} {a c d : Value} (b : Below W1.heap.size W1 wa) (r : Rf wa W1.heap.size [a, c, d]) (hz : W1.heap.size < wa.heap.size) (hu : bi = false -> u0 = t0 /\ u1 = t1 /\ u2 = t2) : RT W1 bi t0 t1 t2 (.pointer (some ⟨W1.heap.size, 0, none⟩)) (.bool (!bi)) (((wa.setCell ⟨W1.heap.size, 0, none⟩ (.string u0)).setCell ⟨W1.heap.size, 1, none⟩ (.string u1)).setCell ⟨W1.heap.size, 2, none⟩ (.string u2)) :=
 ⟨rfl, W1.heap.size, u0, u1, u2, rfl, ((r.set (o := 0) (by simp) (.string u0)).set (o := 1) (by simp) (.string u1)).set (o := 2) (by simp) (.string u2), by rw [World.size_setCell, World.size_setCell, World.size_setCell]; exact hz, ((b.setCell (p := ⟨W1.heap.size, 0, none⟩) (Nat.le_refl _) _).setCell (p := ⟨W1.heap.size, 1, none⟩) (Nat.le_refl _) _).setCell (p := ⟨W1.heap.size, 2, none⟩) (Nat.le_refl _) _, hu⟩
theorem s11 {w : World} {q Pm : Nat} {v a0 a1 a2 a3 a4 a5 a6 a7 a8 : Value} (h : Rf w q [a0, a1, a2, a3, a4, a5, a6, a7, a8]) (hc : w.cell? ⟨Pm, 0, none⟩ = some v) : w.cell? ⟨Pm, 0, none⟩ = some v /\ w.cell? ⟨q, 0, none⟩ = some a0 /\ w.cell? ⟨q, 1, none⟩ = some a1 /\ w.cell? ⟨q, 2, none⟩ = some a2 /\ w.cell? ⟨q, 3, none⟩ = some a3 /\ w.cell? ⟨q, 4, none⟩ = some a4 /\ w.cell? ⟨q, 5, none⟩ = some a5 /\ w.cell? ⟨q, 6, none⟩ = some a6 /\ w.cell? ⟨q, 7, none⟩ = some a7 /\ w.cell? ⟨q, 8, none⟩ = some a8 := ⟨hc, s10 h⟩
def md3 (x y z : ByteArray) : Int × Int × ByteArray := if bin3 x y z = true then (5, 0, ⟨#[]⟩) else (mtR x y z, mtN x y z, mtT x y z)
theorem md_bin {x y z : ByteArray} (h : bin3 x y z = true) : md3 x y z = (5, 0, ⟨#[]⟩) := if_pos h
theorem md_text {x y z : ByteArray} (h : bin3 x y z = false) : md3 x y z = (mtR x y z, mtN x y z, mtT x y z) := if_neg (by rw [h]; simp)
theorem md_of {R : Int × Int × ByteArray} {a b : Int} {t : ByteArray} {w w' : World} {q : Nat} (h : R = (a, b, t)) (hq : w.heap.size = q) (hB : Below q w w') : Ending.returned (.agg #[.int .i64 a, .int .i64 b, .string t]) = .returned (.agg #[.int .i64 R.1, .int .i64 R.2.1, .string R.2.2]) /\ Below w.heap.size w w' := by
 subst hq
 rw [h]; exact ⟨rfl, hB⟩
set_option maxRecDepth 20000 in
set_option maxHeartbeats 8000000 in
theorem mergedTextsC (P Q Pm : Nat) (M : List Ob) (E : List En.Ob) (K : List Wk.Ob) (vE vW : Value) (f0 f2 g0 g2 h0 h2 : ByteArray) (f1 g1 h1 : Int) (w : World) (h : TS P Q Pm M E K vE vW w) (hz : sf M = 0) (hs : SmallO M) :
  Calls Tryz.prog 92 #[.pointer (some ⟨Pm, 0, none⟩), .agg #[.string f0, .int .i64 f1, .string f2, .string g0, .int .i64 g1, .string g2, .string h0, .int .i64 h1, .string h2]] w fun e w' => e = .returned (.agg #[.int .i64 (md3 (tx M (f0, f1, f2)) (tx M (g0, g1, g2)) (tx M (h0, h1, h2))).1, .int .i64 (md3 (tx M (f0, f1, f2)) (tx M (g0, g1, g2)) (tx M (h0, h1, h2))).2.1, .string (md3 (tx M (f0, f1, f2)) (tx M (g0, g1, g2)) (tx M (h0, h1, h2))).2.2]) /\ Below w.heap.size w w' := by
 obtain ⟨q, hq⟩ : ∃ q, w.heap.size = q := ⟨_, rfl⟩
 have HQ : Hid (w.heap.size = q) := hq
 obtain ⟨W1, hW1⟩ : ∃ W, (w.alloc (.cells #[.string f0, .int .i64 f1, .string f2, .string g0, .int .i64 g1, .string g2, .string h0, .int .i64 h1, .string h2] 53)).alloc (.cells #[.int .i64 0, .int .i64 0, .string ⟨#[]⟩] 114) = W := ⟨_, rfl⟩
 have za : (w.alloc (.cells #[.string f0, .int .i64 f1, .string f2, .string g0, .int .i64 g1, .string g2, .string h0, .int .i64 h1, .string h2] 53)).heap.size = q + 1 := by rw [<- hq]; simp
 have b1 : Below q w W1 := by rw [<- hW1, <- hq]; exact ((Below.refl _ _).alloc (Nat.le_refl _) _).alloc (by simp) _
 have ra : Rf W1 q [.string f0, .int .i64 f1, .string f2, .string g0, .int .i64 g1, .string g2, .string h0, .int .i64 h1, .string h2] := by rw [<- hW1, <- hq]; exact (Rf.new w #[.string f0, .int .i64 f1, .string f2, .string g0, .int .i64 g1, .string g2, .string h0, .int .i64 h1, .string h2] _).below (by simp) (allocBelow _ _)
 have rb : Rf W1 (q + 1) [.int .i64 0, .int .i64 0, .string ⟨#[]⟩] := by rw [<- hW1, <- za]; exact Rf.new _ #[.int .i64 0, .int .i64 0, .string ⟨#[]⟩] _
 have z1 : q + 2 <= W1.heap.size := by rw [<- hW1, <- hq]; simp
 have T1 : TS P Q Pm M E K vE vW W1 := h.below (by rw [hq]; exact b1)
 have TD : TS P Q Pm M E K vE vW W1.drew := T1.below (below_drew (Below.refl _ _))
 have HPP : Hid (P + 1 < q) := by show P + 1 < q; have := T1.pq; have := T1.qm; have := h.lt; omega
 have hTM := fun W (bW : Below W1.heap.size W1 W) => textsToMergeC (P + 1) P M (.int .i64 (M.length : Int)) f0 f2 g0 g2 h0 h2 f1 g1 h1 W hz (T1.below bW).rp (by have := bW.size; have := HPP.out; omega) (T1.below bW).sh
 have RD : Rf W1.drew q [.string f0, .int .i64 f1, .string f2, .string g0, .int .i64 g1, .string g2, .string h0, .int .i64 h1, .string h2] := ra.below (by omega) (below_drew (Below.refl _ _))
 have aD : W1.drew.cell? ⟨Pm, 0, none⟩ = some (.pointer (some ⟨P + 1, 0, none⟩)) := TD.rm.at_ 0 _ rfl
 have aW : W1.cell? ⟨Pm, 0, none⟩ = some (.pointer (some ⟨P + 1, 0, none⟩)) := T1.rm.at_ 0 _ rfl
 have hszD : q < W1.drew.heap.size := by show q < W1.heap.size; omega
 have hPm : Pm < q := by rw [<- hq]; exact h.lt
 have s0 := tx_size hs (f0, f1, f2)
 have s1 := tx_size hs (g0, g1, g2)
 have s2 := tx_size hs (h0, h1, h2)
 have hTT : ∀ W, Below W1.heap.size W1 W -> Calls Tryz.prog 115 #[.pointer (some ⟨P + 1, 0, none⟩), .agg #[.string f0, .int .i64 f1, .string f2, .string g0, .int .i64 g1, .string g2, .string h0, .int .i64 h1, .string h2]] W fun e w' => (∃ x y z, e = .returned (.tuple #[.agg #[.string x, .string y, .string z], .bool (!bin3 (tx M (f0, f1, f2)) (tx M (g0, g1, g2)) (tx M (h0, h1, h2)))]) /\ (bin3 (tx M (f0, f1, f2)) (tx M (g0, g1, g2)) (tx M (h0, h1, h2)) = false -> x = tx M (f0, f1, f2) /\ y = tx M (g0, g1, g2) /\ z = tx M (h0, h1, h2))) /\ Below W.heap.size W w' := hTM
 clear hTM
 obtain ⟨t0, ht0⟩ : ∃ t, tx M (f0, f1, f2) = t := ⟨_, rfl⟩
 obtain ⟨t1, ht1⟩ : ∃ t, tx M (g0, g1, g2) = t := ⟨_, rfl⟩
 obtain ⟨t2, ht2⟩ : ∃ t, tx M (h0, h1, h2) = t := ⟨_, rfl⟩
 rw [ht0] at s0
 rw [ht1] at s1
 rw [ht2] at s2
 rw [ht0, ht1, ht2] at hTT ⊢
 have hmt := fun W => implMergeTexts t0 t1 t2 W s0 s1 s2
 clear ht0 ht1 ht2 TD h
 obtain ⟨bi, hbi⟩ : ∃ b, bin3 t0 t1 t2 = b := ⟨_, rfl⟩
 rw [hbi] at hTT
 have bD : Below W1.heap.size W1 W1.drew := below_drew (Below.refl _ _)
 have bE : Below W1.heap.size W1 (W1.alloc (.cells #[.string ⟨#[]⟩, .string ⟨#[]⟩, .string ⟨#[]⟩] 155)).drew := (allocBelow W1 _).drew
 have RE : Rf (W1.alloc (.cells #[.string ⟨#[]⟩, .string ⟨#[]⟩, .string ⟨#[]⟩] 155)).drew q [.string f0, .int .i64 f1, .string f2, .string g0, .int .i64 g1, .string g2, .string h0, .int .i64 h1, .string h2] := ra.below (by omega) bE
 have aE : (W1.alloc (.cells #[.string ⟨#[]⟩, .string ⟨#[]⟩, .string ⟨#[]⟩] 155)).drew.cell? ⟨Pm, 0, none⟩ = some (.pointer (some ⟨P + 1, 0, none⟩)) := zS bE aW
 have RZ : Rf (W1.alloc (.cells #[.string ⟨#[]⟩, .string ⟨#[]⟩, .string ⟨#[]⟩] 155)).drew W1.heap.size [.string ⟨#[]⟩, .string ⟨#[]⟩, .string ⟨#[]⟩] := (Rf.new W1 #[.string ⟨#[]⟩, .string ⟨#[]⟩, .string ⟨#[]⟩] _).below (by simp) (below_drew (Below.refl _ _))
 have zE : W1.heap.size < (W1.alloc (.cells #[.string ⟨#[]⟩, .string ⟨#[]⟩, .string ⟨#[]⟩] 155)).drew.heap.size := by show W1.heap.size < (W1.alloc (.cells #[.string ⟨#[]⟩, .string ⟨#[]⟩, .string ⟨#[]⟩] 155)).heap.size; simp
 clear ra
 go_enter Tryz.func92, Tryz.ntmps92
 go_wp2
 go_cut [5, 6] from 7 to 16 (fun s b wx => RT W1 bi t0 t1 t2 s b wx)
 case first =>
  go_region_held (fun w' => w'.cell? ⟨Pm, 0, none⟩ = some (.pointer (some ⟨P + 1, 0, none⟩)) /\ w'.cell? ⟨q, 0, none⟩ = some (.string f0) /\ w'.cell? ⟨q, 1, none⟩ = some (.int .i64 f1) /\ w'.cell? ⟨q, 2, none⟩ = some (.string f2) /\ w'.cell? ⟨q, 3, none⟩ = some (.string g0) /\ w'.cell? ⟨q, 4, none⟩ = some (.int .i64 g1) /\ w'.cell? ⟨q, 5, none⟩ = some (.string g2) /\ w'.cell? ⟨q, 6, none⟩ = some (.string h0) /\ w'.cell? ⟨q, 7, none⟩ = some (.int .i64 h1) /\ w'.cell? ⟨q, 8, none⟩ = some (.string h2)) (first | with_reducible exact s11 RD aD | with_reducible exact s11 RE aE | with_reducible exact s11 RA aA | with_reducible exact s11 RB aB | with_reducible exact s11 RC aC | with_reducible exact s11 RS aS | exact s11 RC aC | exact s11 RS aS)
   ((first
    | (go_at_call 115; refine (hTT _ bD).mono ?_; rintro e wa ⟨⟨u0, u1, u2, rfl, hu⟩, ba⟩; have zA : W1.heap.size <= wa.heap.size := ba.size; have RA := RD.below hszD ba; have aA := zS ba aD; have RB := RA.below (by omega) (allocBelow wa (.cells #[.string ⟨#[]⟩, .string ⟨#[]⟩, .string ⟨#[]⟩] 155)); have aB := zS (allocBelow wa (.cells #[.string ⟨#[]⟩, .string ⟨#[]⟩, .string ⟨#[]⟩] 155)) aA; have RC := RA.below (by omega) (allocBelow wa (.cells #[.string u0, .string u1, .string u2] 155)); have aC := zS (allocBelow wa (.cells #[.string u0, .string u1, .string u2] 155)) aA; have ba2 : Below W1.heap.size W1.drew wa := ba; have FX := RT.new (t := 155) (bD.trans ba2) hu)
    | (go_at_call 115; refine (hTT _ bE).mono ?_; rintro e wa ⟨⟨u0, u1, u2, rfl, hu⟩, ba⟩; have zA : (W1.alloc (.cells #[.string ⟨#[]⟩, .string ⟨#[]⟩, .string ⟨#[]⟩] 155)).drew.heap.size <= wa.heap.size := ba.size; have RA := RE.below (by omega) ba; have aA := zS ba aE; have RY := RZ.below zE ba; have y0 := RY.at_ 0 _ rfl; have y1 := RY.at_ 1 _ rfl; have y2 := RY.at_ 2 _ rfl; have k0 := RY.fz 0; have k1 := RY.fz 1; have k2 := RY.fz 2; have RS := ((RA.other (b' := W1.heap.size) (o := 0) (by omega) (.string u0)).other (b' := W1.heap.size) (o := 1) (by omega) (.string u1)).other (b' := W1.heap.size) (o := 2) (by omega) (.string u2); have aS := Pv.keep3 (v1 := .string u0) (v2 := .string u1) (v3 := .string u2) (o1 := 0) (o2 := 1) (o3 := 2) aA (show Pm ≠ W1.heap.size by omega); have FX := RT.sets (bE.trans (ba.mono (Nat.le_of_lt zE))) RY (Nat.lt_of_lt_of_le zE ba.size) hu)))
  all_goals (go_wp2_with fail; go_meet; exact FX)
 case rest =>
 obtain ⟨rfl, g, u0, u1, u2, rfl, RG, hg, BG, hu⟩ := hcut
 have rbC := rb.below (by omega) BG
 have BC : Below q w wc := b1.trans (BG.mono (by omega))
 have zC : q + 2 <= wc.heap.size := Nat.le_trans z1 BG.size
 clear hTT RD aD RE aE RZ bD bE aW b1 rb hW1 T1
 cases bi with
 | true =>
  have HC : Hid (md3 t0 t1 t2 = (5, 0, ⟨#[]⟩)) := md_bin hbi
  clear RG hbi hu hmt
  have y0 := rbC.at_ 0 _ rfl
  have k0 := rbC.fz 0
  have y1 := rbC.at_ 1 _ rfl
  have k1 := rbC.fz 1
  have y2 := rbC.at_ 2 _ rfl
  have k2 := rbC.fz 2
  have RV := ((rbC.set (o := 0) (by simp) (.int .i64 5)).set (o := 1) (by simp) (.int .i64 0)).set (o := 2) (by simp) (.string ⟨#[]⟩)
  have BV := ((BC.setCell (p := ⟨q + 1, 0, none⟩) (by show q <= q + 1; omega) (.int .i64 5)).setCell (p := ⟨q + 1, 1, none⟩) (by show q <= q + 1; omega) (.int .i64 0)).setCell (p := ⟨q + 1, 2, none⟩) (by show q <= q + 1; omega) (.string ⟨#[]⟩)
  obtain ⟨V, hV⟩ : ∃ V, ((wc.setCell ⟨q + 1, 0, none⟩ (.int .i64 5)).setCell ⟨q + 1, 1, none⟩ (.int .i64 0)).setCell ⟨q + 1, 2, none⟩ (.string ⟨#[]⟩) = V := ⟨_, rfl⟩
  rw [hV] at RV BV
  have HVV : Hid (_ = V) := hV
  have v0 := RV.at_ 0 _ rfl
  have v1 := RV.at_ 1 _ rfl
  have v2 := RV.at_ 2 _ rfl
  clear hV RV rbC BC
  go_wp2
  rw [HVV.out]
  refine bodyPost_ret (v := .agg #[.int .i64 5, .int .i64 0, .string ⟨#[]⟩]) (by simp [results, Tryz.results92, go_sem, v0, v1, v2]) rfl ?_
  exact md_of HC.out HQ.out BV
 | false =>
  have HC : Hid (md3 t0 t1 t2 = (mtR t0 t1 t2, mtN t0 t1 t2, mtT t0 t1 t2)) := md_text hbi
  obtain ⟨rfl, rfl, rfl⟩ := hu rfl
  have y0 := RG.at_ 0 _ rfl
  have y1 := RG.at_ 1 _ rfl
  have y2 := RG.at_ 2 _ rfl
  clear RG hbi hu
  go_wp2_with fail
  refine (hmt _).mono ?_; rintro e w6 ⟨rfl, b6⟩
  have B6 : Below q w w6 := BC.trans (b6.mono (by omega))
  have rb6 := rbC.below (by omega) b6
  obtain ⟨c0, hc0⟩ : ∃ x, mtR u0 u1 u2 = x := ⟨_, rfl⟩
  obtain ⟨c1, hc1⟩ : ∃ x, mtN u0 u1 u2 = x := ⟨_, rfl⟩
  obtain ⟨c2, hc2⟩ : ∃ x, mtT u0 u1 u2 = x := ⟨_, rfl⟩
  rw [hc0, hc1, hc2] at HC ⊢
  clear hmt y0 y1 y2 BC rbC b6 hc0 hc1 hc2
  have y0 := rb6.at_ 0 _ rfl
  have k0 := rb6.fz 0
  have y1 := rb6.at_ 1 _ rfl
  have k1 := rb6.fz 1
  have y2 := rb6.at_ 2 _ rfl
  have k2 := rb6.fz 2
  have RV := ((rb6.set (o := 0) (by simp) (.int .i64 c0)).set (o := 1) (by simp) (.int .i64 c1)).set (o := 2) (by simp) (.string c2)
  have BV := ((B6.setCell (p := ⟨q + 1, 0, none⟩) (by show q <= q + 1; omega) (.int .i64 c0)).setCell (p := ⟨q + 1, 1, none⟩) (by show q <= q + 1; omega) (.int .i64 c1)).setCell (p := ⟨q + 1, 2, none⟩) (by show q <= q + 1; omega) (.string c2)
  obtain ⟨V, hV⟩ : ∃ V, ((w6.setCell ⟨q + 1, 0, none⟩ (.int .i64 c0)).setCell ⟨q + 1, 1, none⟩ (.int .i64 c1)).setCell ⟨q + 1, 2, none⟩ (.string c2) = V := ⟨_, rfl⟩
  rw [hV] at RV BV
  have HVV : Hid (_ = V) := hV
  have v0 := RV.at_ 0 _ rfl
  have v1 := RV.at_ 1 _ rfl
  have v2 := RV.at_ 2 _ rfl
  clear hV RV rb6 B6
  go_wp2
  rw [HVV.out]
  refine bodyPost_ret (v := .agg #[.int .i64 c0, .int .i64 c1, .string c2]) (by simp [results, Tryz.results92, go_sem, v0, v1, v2]) rfl ?_
  exact md_of HC.out HQ.out BV
end Go.Proofs.YtcfnkndbhpdfnaaGreatDoor.Tm
set_option linter.unusedVariables false
namespace Go.Proofs.YtcfnkndbhpdfnaaGreatDoor.Tm
open Go.ChangeShapes Go.WideShapes Go.ChangeAt Go.RowKit
open Go.Proofs.YtcfnkndbhpdfnaaGreatDoor.Pv
def MR (P Q Pm : Nat) (c : Int) (M : List Ob) (E : List En.Ob) (K : List Wk.Ob) (vE vW : Value) (w : World) (e : Ending) (w' : World) : Prop := e = .returned (.int .i64 c) /\ ∃ v' u', TF P Q Pm vE vW v' u' w w' /\ (c = 0 -> TS P Q Pm M E K v' u' w')
set_option maxRecDepth 20000 in
set_option maxHeartbeats 4000000 in
theorem takeOursC (P Q Pm : Nat) (M : List Ob) (E : List En.Ob) (K : List Wk.Ob) (vE vW : Value) (f0 f2 g0 g2 h0 h2 : ByteArray) (f1 g1 h1 : Int) (w : World) (h : TS P Q Pm M E K vE vW w) (hs0 : g0.size <= 1048576) (hs2 : g2.size <= 1048576) (hn : E.length <= 1048575) (hL : ¬ ((g0, g1, g2) : Fl.Ob) = Fl.onil -> En.Last E (entF (g0, g1, g2) 0)) :
  Calls Tryz.prog 54 #[.pointer (some ⟨Pm, 0, none⟩), .agg #[.string f0, .int .i64 f1, .string f2, .string g0, .int .i64 g1, .string g2, .string h0, .int .i64 h1, .string h2]] w fun e w' => MR P Q Pm 0 M (if ((g0, g1, g2) : Fl.Ob) = Fl.onil then E else E ++ [entF (g0, g1, g2) 0]) K vE vW w e w' := by
 obtain ⟨EE, hEE⟩ : ∃ EE, (if ((g0, g1, g2) : Fl.Ob) = Fl.onil then E else E ++ [entF (g0, g1, g2) 0]) = EE := ⟨_, rfl⟩
 rw [hEE]
 obtain ⟨q, hq⟩ : ∃ q, w.heap.size = q := ⟨_, rfl⟩
 obtain ⟨W1, hW1⟩ : ∃ W, w.alloc (.cells #[.string f0, .int .i64 f1, .string f2, .string g0, .int .i64 g1, .string g2, .string h0, .int .i64 h1, .string h2] 53) = W := ⟨_, rfl⟩
 have b1 : Below w.heap.size w W1 := by rw [<- hW1]; exact allocBelow _ _
 have r1 : Rf W1 q [.string f0, .int .i64 f1, .string f2, .string g0, .int .i64 g1, .string g2, .string h0, .int .i64 h1, .string h2] := by rw [<- hW1, <- hq]; exact Rf.new _ #[.string f0, .int .i64 f1, .string f2, .string g0, .int .i64 g1, .string g2, .string h0, .int .i64 h1, .string h2] _
 have T1 := h.below b1
 have F1 : Hid (TF P Q Pm vE vW vE vW w W1) := TF.ofBelow b1
 have zW : W1.heap.size = q + 1 := by rw [<- hW1, <- hq]; simp
 have hS := settleC P Q Pm M E K vE vW g0 g2 g1 W1 T1 hs0 hs2 hn hL
 rw [hEE] at hS
 have c0 := r1.at_ 0 _ rfl
 have c1 := r1.at_ 1 _ rfl
 have c2 := r1.at_ 2 _ rfl
 have c3 := r1.at_ 3 _ rfl
 have c4 := r1.at_ 4 _ rfl
 have c5 := r1.at_ 5 _ rfl
 have c6 := r1.at_ 6 _ rfl
 have c7 := r1.at_ 7 _ rfl
 have c8 := r1.at_ 8 _ rfl
 clear r1 b1 T1 h hL hEE
 go_enter Tryz.func54, Tryz.ntmps54
 go_wp2_with fail
 refine hS.mono ?_; rintro e w2 ⟨rfl, v', T2, F2⟩
 have HX : Hid (MR P Q Pm 0 M EE K vE vW w (.returned (.int .i64 0)) w2) := ⟨rfl, v', vW, F1.out.trans F2, fun _ => T2⟩
 clear hS T2 F2 c0 c1 c2 c3 c4 c5 c6 c7 c8 hW1 hq
 go_wp2
 go_ret
 exact HX.out
set_option maxRecDepth 20000 in
set_option maxHeartbeats 4000000 in
theorem takeTheirsC (P Q Pm : Nat) (M : List Ob) (E : List En.Ob) (K : List Wk.Ob) (vE vW : Value) (f0 f2 g0 g2 h0 h2 : ByteArray) (f1 g1 h1 : Int) (w : World) (h : TS P Q Pm M E K vE vW w) (hs0 : h0.size <= 1048576) (hs2 : h2.size <= 1048576) (hn : E.length <= 1048575) (hL : ¬ ((h0, h1, h2) : Fl.Ob) = Fl.onil -> En.Last E (entF (h0, h1, h2) 0)) :
  Calls Tryz.prog 55 #[.pointer (some ⟨Pm, 0, none⟩), .agg #[.string f0, .int .i64 f1, .string f2, .string g0, .int .i64 g1, .string g2, .string h0, .int .i64 h1, .string h2]] w fun e w' => MR P Q Pm 0 M (if ((h0, h1, h2) : Fl.Ob) = Fl.onil then E else E ++ [entF (h0, h1, h2) 0]) K vE vW w e w' := by
 obtain ⟨EE, hEE⟩ : ∃ EE, (if ((h0, h1, h2) : Fl.Ob) = Fl.onil then E else E ++ [entF (h0, h1, h2) 0]) = EE := ⟨_, rfl⟩
 rw [hEE]
 obtain ⟨q, hq⟩ : ∃ q, w.heap.size = q := ⟨_, rfl⟩
 obtain ⟨W1, hW1⟩ : ∃ W, w.alloc (.cells #[.string f0, .int .i64 f1, .string f2, .string g0, .int .i64 g1, .string g2, .string h0, .int .i64 h1, .string h2] 53) = W := ⟨_, rfl⟩
 have b1 : Below w.heap.size w W1 := by rw [<- hW1]; exact allocBelow _ _
 have r1 : Rf W1 q [.string f0, .int .i64 f1, .string f2, .string g0, .int .i64 g1, .string g2, .string h0, .int .i64 h1, .string h2] := by rw [<- hW1, <- hq]; exact Rf.new _ #[.string f0, .int .i64 f1, .string f2, .string g0, .int .i64 g1, .string g2, .string h0, .int .i64 h1, .string h2] _
 have T1 := h.below b1
 have F1 : Hid (TF P Q Pm vE vW vE vW w W1) := TF.ofBelow b1
 have zW : W1.heap.size = q + 1 := by rw [<- hW1, <- hq]; simp
 have hS := settleC P Q Pm M E K vE vW h0 h2 h1 W1 T1 hs0 hs2 hn hL
 rw [hEE] at hS
 have c0 := r1.at_ 0 _ rfl
 have c1 := r1.at_ 1 _ rfl
 have c2 := r1.at_ 2 _ rfl
 have c3 := r1.at_ 3 _ rfl
 have c4 := r1.at_ 4 _ rfl
 have c5 := r1.at_ 5 _ rfl
 have c6 := r1.at_ 6 _ rfl
 have c7 := r1.at_ 7 _ rfl
 have c8 := r1.at_ 8 _ rfl
 clear r1 b1 T1 h hL hEE
 go_enter Tryz.func55, Tryz.ntmps55
 go_wp2_with fail
 refine hS.mono ?_; rintro e w2 ⟨rfl, v', T2, F2⟩
 have HX : Hid (MR P Q Pm 0 M EE K vE vW w (.returned (.int .i64 0)) w2) := ⟨rfl, v', vW, F1.out.trans F2, fun _ => T2⟩
 clear hS T2 F2 c0 c1 c2 c3 c4 c5 c6 c7 c8 hW1 hq
 go_wp2
 go_ret
 exact HX.out
theorem s14 {w : World} {q Pm : Nat} {v a0 a1 a2 a3 a4 a5 a6 a7 a8 b0 b1 b2 : Value} (h : Rf w q [a0, a1, a2, a3, a4, a5, a6, a7, a8]) (k : Rf w (q + 1) [b0, b1, b2]) (hc : w.cell? ⟨Pm, 0, none⟩ = some v) : w.cell? ⟨Pm, 0, none⟩ = some v /\ w.cell? ⟨q + 1, 0, none⟩ = some b0 /\ w.cell? ⟨q + 1, 1, none⟩ = some b1 /\ w.cell? ⟨q + 1, 2, none⟩ = some b2 /\ w.cell? ⟨q, 0, none⟩ = some a0 /\ w.cell? ⟨q, 1, none⟩ = some a1 /\ w.cell? ⟨q, 2, none⟩ = some a2 /\ w.cell? ⟨q, 3, none⟩ = some a3 /\ w.cell? ⟨q, 4, none⟩ = some a4 /\ w.cell? ⟨q, 5, none⟩ = some a5 /\ w.cell? ⟨q, 6, none⟩ = some a6 /\ w.cell? ⟨q, 7, none⟩ = some a7 /\ w.cell? ⟨q, 8, none⟩ = some a8 := ⟨hc, k.at_ 0 _ rfl, k.at_ 1 _ rfl, k.at_ 2 _ rfl, s10 h⟩
set_option maxRecDepth 20000 in
set_option maxHeartbeats 8000000 in
theorem keepC (P Q Pm : Nat) (M : List Ob) (E : List En.Ob) (K : List Wk.Ob) (vE vW : Value) (f0 f2 g0 g2 h0 h2 y0 y2 : ByteArray) (f1 g1 h1 y1 : Int) (w : World) (h : TS P Q Pm M E K vE vW w) (hz : sf M = 0) (hs : SmallO M)
  (hsz : ∀ k, k < 3 -> ([((f0, f1, f2) : Fl.Ob), (g0, g1, g2), (h0, h1, h2)].getD k Fl.onil).1.size <= 1048576 /\ ([((f0, f1, f2) : Fl.Ob), (g0, g1, g2), (h0, h1, h2)].getD k Fl.onil).2.2.size <= 1048576) (hn : E.length <= 1048000) (hkn : K.length <= 1048000)
  (hL : ∀ k, k < 3 -> ¬ [((f0, f1, f2) : Fl.Ob), (g0, g1, g2), (h0, h1, h2)].getD k Fl.onil = Fl.onil -> En.Last (E ++ stgK [((f0, f1, f2) : Fl.Ob), (g0, g1, g2), (h0, h1, h2)] k) (entF ([((f0, f1, f2) : Fl.Ob), (g0, g1, g2), (h0, h1, h2)].getD k Fl.onil) ((k : Int) + 1)))
  (hY : 0 < (som [((f0, f1, f2) : Fl.Ob), (g0, g1, g2), (h0, h1, h2)]).length) (hY2 : (som [((f0, f1, f2) : Fl.Ob), (g0, g1, g2), (h0, h1, h2)]).getD 0 Fl.onil = (y0, y1, y2)) (hy0 : y0.size <= 1048576) :
  Calls Tryz.prog 57 #[.pointer (some ⟨Pm, 0, none⟩), .agg #[.string f0, .int .i64 f1, .string f2, .string g0, .int .i64 g1, .string g2, .string h0, .int .i64 h1, .string h2]] w fun e w' => MR P Q Pm 0 M (E ++ stgK [((f0, f1, f2) : Fl.Ob), (g0, g1, g2), (h0, h1, h2)] 3) (K ++ [(y0, tx M (lef (g0, g1, g2) (h0, h1, h2)))]) vE vW w e w' := by
 obtain ⟨q, hq⟩ : ∃ q, w.heap.size = q := ⟨_, rfl⟩
 obtain ⟨W1, hW1⟩ : ∃ W, w.alloc (.cells #[.string f0, .int .i64 f1, .string f2, .string g0, .int .i64 g1, .string g2, .string h0, .int .i64 h1, .string h2] 53) = W := ⟨_, rfl⟩
 have b1 : Below w.heap.size w W1 := by rw [<- hW1]; exact allocBelow _ _
 have r1 : Rf W1 q [.string f0, .int .i64 f1, .string f2, .string g0, .int .i64 g1, .string g2, .string h0, .int .i64 h1, .string h2] := by rw [<- hW1, <- hq]; exact Rf.new _ #[.string f0, .int .i64 f1, .string f2, .string g0, .int .i64 g1, .string g2, .string h0, .int .i64 h1, .string h2] _
 have T1 := h.below b1
 have F1 : Hid (TF P Q Pm vE vW vE vW w W1) := TF.ofBelow b1
 have zW : W1.heap.size = q + 1 := by rw [<- hW1, <- hq]; simp
 obtain ⟨W2, hW2⟩ : ∃ W, W1.alloc (.cells #[.string g0, .int .i64 g1, .string g2] 34) = W := ⟨_, rfl⟩
 have b2 : Below W1.heap.size W1 W2 := by rw [<- hW2]; exact allocBelow _ _
 have r2 : Rf W2 (q + 1) [.string g0, .int .i64 g1, .string g2] := by rw [<- hW2, <- zW]; exact Rf.new _ #[.string g0, .int .i64 g1, .string g2] _
 have rq : Rf W2 q [.string f0, .int .i64 f1, .string f2, .string g0, .int .i64 g1, .string g2, .string h0, .int .i64 h1, .string h2] := r1.below (by omega) b2
 have zV2 : W2.heap.size = q + 2 := by rw [<- hW2, World.size_alloc, zW]
 have hlt := h.lt
 have hqm := h.qm
 have hpq := h.pq
 have HV : Hid (W1.heap.size = q + 1) := zW
 have p0 := r2.at_ 0 _ rfl
 have p1 := r2.at_ 1 _ rfl
 have p2 := r2.at_ 2 _ rfl
 have k0 := r2.fz 0
 have k1 := r2.fz 1
 have k2 := r2.fz 2
 have c0 := r1.at_ 0 _ rfl
 have c1 := r1.at_ 1 _ rfl
 have c2 := r1.at_ 2 _ rfl
 have c3 := r1.at_ 3 _ rfl
 have c4 := r1.at_ 4 _ rfl
 have c5 := r1.at_ 5 _ rfl
 have c6 := r1.at_ 6 _ rfl
 have c7 := r1.at_ 7 _ rfl
 have c8 := r1.at_ 8 _ rfl
 by_cases hg : ((g0, g1, g2) : Fl.Ob) = Fl.onil
 ·have hE := Fl.ef_nil hg
  have HLF : Hid ((lef (g0, g1, g2) (h0, h1, h2)) = (h0, h1, h2)) := if_pos hg
  clear hg
  go_enter Tryz.func57, Tryz.ntmps57
  have n6 := rq.at_ 6 _ rfl
  have n7 := rq.at_ 7 _ rfl
  have n8 := rq.at_ 8 _ rfl
  have R5 := ((r2.set (o := 0) (by simp) (.string h0)).set (o := 1) (by simp) (.int .i64 h1)).set (o := 2) (by simp) (.string h2)
  have RV := ((rq.other (b' := q + 1) (o := 0) (by omega) (.string h0)).other (b' := q + 1) (o := 1) (by omega) (.int .i64 h1)).other (b' := q + 1) (o := 2) (by omega) (.string h2)
  have BV : Below W1.heap.size W1 (((W2.setCell ⟨q + 1, 0, none⟩ (.string h0)).setCell ⟨q + 1, 1, none⟩ (.int .i64 h1)).setCell ⟨q + 1, 2, none⟩ (.string h2)) := ((b2.setCell (p := ⟨q + 1, 0, none⟩) (by show W1.heap.size <= q + 1; omega) _).setCell (p := ⟨q + 1, 1, none⟩) (by show W1.heap.size <= q + 1; omega) _).setCell (p := ⟨q + 1, 2, none⟩) (by show W1.heap.size <= q + 1; omega) _
  have ZS : (((W2.setCell ⟨q + 1, 0, none⟩ (.string h0)).setCell ⟨q + 1, 1, none⟩ (.int .i64 h1)).setCell ⟨q + 1, 2, none⟩ (.string h2)).heap.size = q + 2 := by rw [World.size_setCell, World.size_setCell, World.size_setCell]; exact zV2
  obtain ⟨V, hV⟩ : ∃ V, ((W2.setCell ⟨q + 1, 0, none⟩ (.string h0)).setCell ⟨q + 1, 1, none⟩ (.int .i64 h1)).setCell ⟨q + 1, 2, none⟩ (.string h2) = V := ⟨_, rfl⟩
  rw [hV] at R5 RV BV ZS
  have HVV : Hid (_ = V) := hV
  clear hV
  have TV := T1.below BV
  have FV : Hid (TF P Q Pm vE vW vE vW w V) := F1.out.trans (TF.ofBelow BV)
  clear r1 r2 rq BV
  go_wp2
  rw [HVV.out]
  have hTO := textOfC (P + 1) P M (.int .i64 (M.length : Int)) h0 h2 h1 V.drew hz (TV.below (below_drew (Below.refl _ _))).rp (by have := TV.pq; have := TV.qm; have := TV.lt; show P + 1 < V.heap.size; omega) (TV.below (below_drew (Below.refl _ _))).sh
  have TD := TV.below (below_drew (Below.refl _ _))
  have RD : Rf V.drew q [.string f0, .int .i64 f1, .string f2, .string g0, .int .i64 g1, .string g2, .string h0, .int .i64 h1, .string h2] := RV.below (by omega) (below_drew (Below.refl _ _))
  have SD : Rf V.drew (q + 1) [.string h0, .int .i64 h1, .string h2] := R5.below (by omega) (below_drew (Below.refl _ _))
  have aD : V.drew.cell? ⟨Pm, 0, none⟩ = some (.pointer (some ⟨P + 1, 0, none⟩)) := TD.rm.at_ 0 _ rfl
  have tz := tx_size hs (h0, h1, h2)
  obtain ⟨X, hX⟩ : ∃ X, tx M (h0, h1, h2) = X := ⟨_, rfl⟩
  rw [hX] at hTO tz
  have HXX : Hid (tx M (lef (g0, g1, g2) (h0, h1, h2)) = X) := by show _ = _; rw [HLF.out]; exact hX
  have hCl := fun W T => clashC P Q Pm M E K vE vW f0 f2 g0 g2 h0 h2 y0 y2 X f1 g1 h1 y1 W T hsz hn hkn hL hY hY2 hy0 (by omega)
  have hEq : vE.ownBlock ≠ some q := fun e => by have := (h.sl.own.lt q e).2; omega
  have hWq : vW.ownBlock ≠ some q := fun e => by have := (h.ow.lt q e).2; omega
  have hEr : vE.ownBlock ≠ some (q + 1) := fun e => by have := (h.sl.own.lt _ e).2; omega
  have hWr : vW.ownBlock ≠ some (q + 1) := fun e => by have := (h.ow.lt _ e).2; omega
  clear hX RV R5 TV h
  go_region_held (fun w' => w'.cell? ⟨Pm, 0, none⟩ = some (.pointer (some ⟨P + 1, 0, none⟩)) /\ w'.cell? ⟨q + 1, 0, none⟩ = some (.string h0) /\ w'.cell? ⟨q + 1, 1, none⟩ = some (.int .i64 h1) /\ w'.cell? ⟨q + 1, 2, none⟩ = some (.string h2) /\ w'.cell? ⟨q, 0, none⟩ = some (.string f0) /\ w'.cell? ⟨q, 1, none⟩ = some (.int .i64 f1) /\ w'.cell? ⟨q, 2, none⟩ = some (.string f2) /\ w'.cell? ⟨q, 3, none⟩ = some (.string g0) /\ w'.cell? ⟨q, 4, none⟩ = some (.int .i64 g1) /\ w'.cell? ⟨q, 5, none⟩ = some (.string g2) /\ w'.cell? ⟨q, 6, none⟩ = some (.string h0) /\ w'.cell? ⟨q, 7, none⟩ = some (.int .i64 h1) /\ w'.cell? ⟨q, 8, none⟩ = some (.string h2)) (first | with_reducible exact s14 RD SD aD | with_reducible exact s14 RA SA aA | with_reducible exact s14 RB SB aB | exact s14 RD SD aD)
   ((first
    | (go_at_call 91; refine hTO.mono ?_; rintro e wa ⟨rfl, ba⟩; have zA : V.heap.size <= wa.heap.size := ba.size; have RA := RD.below (by show q < V.heap.size; omega) ba; have SA := SD.below (by show q + 1 < V.heap.size; omega) ba; have aA := zS ba aD; have TA := TD.below ba; have FA : Hid (TF P Q Pm vE vW vE vW V.drew wa) := TF.ofBelow ba)
    | (go_at_call 94; refine (hCl _ TA).mono ?_; rintro e wb ⟨rfl, v', u', TB, FB⟩; have RB := FB.keepRf RA (by omega) (by omega) (by omega) (by omega) hEq hWq; have SB := FB.keepRf SA (by omega) (by omega) (by omega) (by omega) hEr hWr; have aB := TB.rm.at_ 0 _ rfl)))
  all_goals
   have HZ : Hid (MR P Q Pm 0 M (E ++ stgK [((f0, f1, f2) : Fl.Ob), (g0, g1, g2), (h0, h1, h2)] 3) (K ++ [(y0, tx M (lef (g0, g1, g2) (h0, h1, h2)))]) vE vW w (.returned (.int .i64 0)) wb) := by show MR _ _ _ _ _ _ _ _ _ _ _ _; rw [HXX.out]; exact ⟨rfl, v', u', FV.out.trans ((TF.ofBelow (below_drew (Below.refl _ V))).trans (FA.out.trans FB)), fun _ => TB⟩
   clear TB FB RB SB aB TA RA SA aA hTO hCl
   go_wp2
   go_ret
   exact HZ.out
 ·have hE := Fl.ef_some hg
  have HLF : Hid ((lef (g0, g1, g2) (h0, h1, h2)) = (g0, g1, g2)) := if_neg hg
  clear hg r1
  go_enter Tryz.func57, Tryz.ntmps57
  go_wp2
  have RV := rq
  have R5 := r2
  have TV := T1.below b2
  have FV : Hid (TF P Q Pm vE vW vE vW w W2) := F1.out.trans (TF.ofBelow b2)
  have hTO := textOfC (P + 1) P M (.int .i64 (M.length : Int)) g0 g2 g1 W2.drew hz (TV.below (below_drew (Below.refl _ _))).rp (by have := TV.pq; have := TV.qm; have := TV.lt; show P + 1 < W2.heap.size; omega) (TV.below (below_drew (Below.refl _ _))).sh
  have TD := TV.below (below_drew (Below.refl _ _))
  have RD : Rf W2.drew q [.string f0, .int .i64 f1, .string f2, .string g0, .int .i64 g1, .string g2, .string h0, .int .i64 h1, .string h2] := RV.below (by omega) (below_drew (Below.refl _ _))
  have SD : Rf W2.drew (q + 1) [.string g0, .int .i64 g1, .string g2] := R5.below (by omega) (below_drew (Below.refl _ _))
  have aD : W2.drew.cell? ⟨Pm, 0, none⟩ = some (.pointer (some ⟨P + 1, 0, none⟩)) := TD.rm.at_ 0 _ rfl
  have tz := tx_size hs (g0, g1, g2)
  obtain ⟨X, hX⟩ : ∃ X, tx M (g0, g1, g2) = X := ⟨_, rfl⟩
  rw [hX] at hTO tz
  have HXX : Hid (tx M (lef (g0, g1, g2) (h0, h1, h2)) = X) := by show _ = _; rw [HLF.out]; exact hX
  have hCl := fun W T => clashC P Q Pm M E K vE vW f0 f2 g0 g2 h0 h2 y0 y2 X f1 g1 h1 y1 W T hsz hn hkn hL hY hY2 hy0 (by omega)
  have hEq : vE.ownBlock ≠ some q := fun e => by have := (h.sl.own.lt q e).2; omega
  have hWq : vW.ownBlock ≠ some q := fun e => by have := (h.ow.lt q e).2; omega
  have hEr : vE.ownBlock ≠ some (q + 1) := fun e => by have := (h.sl.own.lt _ e).2; omega
  have hWr : vW.ownBlock ≠ some (q + 1) := fun e => by have := (h.ow.lt _ e).2; omega
  clear hX RV R5 TV h
  go_region_held (fun w' => w'.cell? ⟨Pm, 0, none⟩ = some (.pointer (some ⟨P + 1, 0, none⟩)) /\ w'.cell? ⟨q + 1, 0, none⟩ = some (.string g0) /\ w'.cell? ⟨q + 1, 1, none⟩ = some (.int .i64 g1) /\ w'.cell? ⟨q + 1, 2, none⟩ = some (.string g2) /\ w'.cell? ⟨q, 0, none⟩ = some (.string f0) /\ w'.cell? ⟨q, 1, none⟩ = some (.int .i64 f1) /\ w'.cell? ⟨q, 2, none⟩ = some (.string f2) /\ w'.cell? ⟨q, 3, none⟩ = some (.string g0) /\ w'.cell? ⟨q, 4, none⟩ = some (.int .i64 g1) /\ w'.cell? ⟨q, 5, none⟩ = some (.string g2) /\ w'.cell? ⟨q, 6, none⟩ = some (.string h0) /\ w'.cell? ⟨q, 7, none⟩ = some (.int .i64 h1) /\ w'.cell? ⟨q, 8, none⟩ = some (.string h2)) (first | with_reducible exact s14 RD SD aD | with_reducible exact s14 RA SA aA | with_reducible exact s14 RB SB aB | exact s14 RD SD aD)
   ((first
    | (go_at_call 91; refine hTO.mono ?_; rintro e wa ⟨rfl, ba⟩; have zA : W2.heap.size <= wa.heap.size := ba.size; have RA := RD.below (by show q < W2.heap.size; omega) ba; have SA := SD.below (by show q + 1 < W2.heap.size; omega) ba; have aA := zS ba aD; have TA := TD.below ba; have FA : Hid (TF P Q Pm vE vW vE vW W2.drew wa) := TF.ofBelow ba)
    | (go_at_call 94; refine (hCl _ TA).mono ?_; rintro e wb ⟨rfl, v', u', TB, FB⟩; have RB := FB.keepRf RA (by omega) (by omega) (by omega) (by omega) hEq hWq; have SB := FB.keepRf SA (by omega) (by omega) (by omega) (by omega) hEr hWr; have aB := TB.rm.at_ 0 _ rfl)))
  all_goals
   have HZ : Hid (MR P Q Pm 0 M (E ++ stgK [((f0, f1, f2) : Fl.Ob), (g0, g1, g2), (h0, h1, h2)] 3) (K ++ [(y0, tx M (lef (g0, g1, g2) (h0, h1, h2)))]) vE vW w (.returned (.int .i64 0)) wb) := by show MR _ _ _ _ _ _ _ _ _ _ _ _; rw [HXX.out]; exact ⟨rfl, v', u', FV.out.trans ((TF.ofBelow (below_drew (Below.refl _ W2))).trans (FA.out.trans FB)), fun _ => TB⟩
   clear TB FB RB SB aB TA RA SA aA hTO hCl
   go_wp2
   go_ret
   exact HZ.out
end Go.Proofs.YtcfnkndbhpdfnaaGreatDoor.Tm
