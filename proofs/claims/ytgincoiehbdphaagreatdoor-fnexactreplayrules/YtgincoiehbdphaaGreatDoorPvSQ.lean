/- PreOf of the specification: the files of a path. No statement is proved here. -/
import Derived.Test.YtgincoiehbdphaaGreatDoorPvMQ
set_option linter.unusedVariables false
namespace Go.Proofs.YtgincoiehbdphaaGreatDoor.Pv
open Go.ChangeShapes Go.WideShapes Go.ChangeAt Go.RowKit
def FQ (f : Fl.Ob) (w : World) (e : Ending) (w' : World) : Prop := e = .returned (.agg #[.string f.1, .int .i64 f.2.1, .string f.2.2]) /\ Below w.heap.size w w'
theorem fq_of {f : Fl.Ob} {x0 x2 : ByteArray} {x1 : Int} {w w' : World} {b : Nat} (hb : w.heap.size = b) (h : f = (x0, x1, x2)) (hB : Below b w w') : FQ f w (.returned (.agg #[.string x0, .int .i64 x1, .string x2])) w' := by
 subst hb h
 exact ⟨rfl, hB⟩
theorem flBelowAt {B b : Nat} {w w' : World} {a : Option Addr} {l : List Fl.Ob} (h : Fl.OB B w a l) (hb : Below b w w') (hB : B <= b) : Fl.OB B w' a l := fun k hk => by
 obtain ⟨g, off, e, hg, d0, d1, d2⟩ := h k hk
 have q : g < b := by omega
 exact ⟨g, off, e, hg, (hb.cell (p := ⟨g, _, none⟩) q).trans d0, (hb.cell (p := ⟨g, _, none⟩) q).trans d1, (hb.cell (p := ⟨g, _, none⟩) q).trans d2⟩
set_option maxRecDepth 20000 in
set_option maxHeartbeats 4000000 in
theorem l7FindC (a : Option Addr) (c : Nat) (fs : List Fl.Ob) (p : ByteArray) (w : World) (h : Fl.OB w.heap.size w a fs) (hn : fs.length <= 1048576) :
  Calls Tryz.prog 103 #[.slice a fs.length c, .string p] w fun e w' => FQ (En.ffF fs p) w e w' := by
 obtain ⟨b, hb⟩ : ∃ b, w.heap.size = b := ⟨_, rfl⟩
 have HB : Hid (w.heap.size = b) := hb
 obtain ⟨W1, hW1⟩ : ∃ W, w.alloc (.cells #[.string ⟨#[]⟩, .int .i64 0, .string ⟨#[]⟩] 34) = W := ⟨_, rfl⟩
 have b1 : Below b w W1 := by rw [<- hW1, <- hb]; exact allocBelow _ _
 have r1 : Rf W1 b [.string ⟨#[]⟩, .int .i64 0, .string ⟨#[]⟩] := by rw [<- hW1, <- hb]; exact Rf.new _ #[.string ⟨#[]⟩, .int .i64 0, .string ⟨#[]⟩] _
 have A1 : Fl.OB b W1 a fs := by rw [<- hb] at b1 ⊢; exact h.below b1
 clear h
 go_enter Tryz.func103, Tryz.ntmps103
 go_wp2
 clear hb hW1
 go_loopw [5] (fun vi wr => ∃ k : Nat, k <= fs.length /\ vi = .int .i64 (k : Int) /\ wr = W1 /\ Hid (∀ j, j < k -> ¬ (fs.getD j Fl.onil).1 = p)) (fun vi _ => fs.length - (intOf vi).toNat)
 case atStart => exact ⟨0, Nat.zero_le _, rfl, rfl, fun j hj => absurd hj (by omega)⟩
 case round =>
  obtain ⟨k, hk, rfl, rfl, hA⟩ := hrel
  by_cases hlt : k < fs.length
  ·have q : (k : Int) < (fs.length : Int) := by omega
   obtain ⟨g, off, e, hg, d0, d1, d2⟩ := A1 k hlt
   subst e
   by_cases hx : (fs.getD k Fl.onil).1 = p
   ·have HR := En.ff_at hlt hA.out hx
    have hb : ((fs.getD k Fl.onil).1.toList == p.toList) = true := beq_bytes_true hx
    obtain ⟨C, hC⟩ : ∃ C, fs.getD k Fl.onil = C := ⟨_, rfl⟩
    obtain ⟨x0, x1, x2⟩ := C
    rw [hC] at d0 d1 d2 hb HR
    simp only [] at d0 d1 d2 hb
    have HR2 : Hid (En.ffF fs p = (x0, x1, x2)) := HR
    clear hA hx hC HR
    have c0 := r1.at_ 0 _ rfl
    have c1 := r1.at_ 1 _ rfl
    have c2 := r1.at_ 2 _ rfl
    have f0 := r1.fz 0
    have f1 := r1.fz 1
    have f2 := r1.fz 2
    have RV := ((r1.set (o := 0) (by simp) (.string x0)).set (o := 1) (by simp) (.int .i64 x1)).set (o := 2) (by simp) (.string x2)
    have BV := ((b1.setCell (p := ⟨b, 0, none⟩) (Nat.le_refl _) (.string x0)).setCell (p := ⟨b, 1, none⟩) (Nat.le_refl _) (.int .i64 x1)).setCell (p := ⟨b, 2, none⟩) (Nat.le_refl _) (.string x2)
    obtain ⟨V, hV⟩ : ∃ V, ((wr.setCell ⟨b, 0, none⟩ (.string x0)).setCell ⟨b, 1, none⟩ (.int .i64 x1)).setCell ⟨b, 2, none⟩ (.string x2) = V := ⟨_, rfl⟩
    rw [hV] at RV BV
    have HV : Hid (_ = V) := hV
    have v0 := RV.at_ 0 _ rfl
    have v1 := RV.at_ 1 _ rfl
    have v2 := RV.at_ 2 _ rfl
    clear hV RV r1 b1
    go_wp2
    rw [HV.out]
    refine bodyPost_ret (v := .agg #[.string x0, .int .i64 x1, .string x2]) (by simp [results, Tryz.results103, go_sem, v0, v1, v2]) rfl ?_
    exact fq_of HB.out HR2.out BV
   ·have HG : Hid (∀ j, j < k + 1 -> ¬ (fs.getD j Fl.onil).1 = p) := fun j hj => by
     by_cases e : j = k
     ·rw [e]; exact hx
     ·exact hA.out j (by omega)
    have hb : ((fs.getD k Fl.onil).1.toList == p.toList) = false := beq_bytes_false hx
    obtain ⟨X, hX⟩ : ∃ X, (fs.getD k Fl.onil).1 = X := ⟨_, rfl⟩
    rw [hX] at d0 hb
    clear hA hx hX
    go_wp2
    go_roundw
    case rel => exact ⟨k + 1, by omega, by go_num, by first | rfl | trivial, HG⟩
    case measure => first | (simp [intOf]; omega) | simp [intOf]
  ·have HR2 : Hid (En.ffF fs p = (⟨#[]⟩, 0, ⟨#[]⟩)) := En.ff_none fun j hj => hA.out j (by omega)
   have q : ¬ (k : Int) < (fs.length : Int) := by omega
   clear hA
   have c0 := r1.at_ 0 _ rfl
   have c1 := r1.at_ 1 _ rfl
   have c2 := r1.at_ 2 _ rfl
   have f0 := r1.fz 0
   have f1 := r1.fz 1
   have f2 := r1.fz 2
   have RV := ((r1.set (o := 0) (by simp) (.string ⟨#[]⟩)).set (o := 1) (by simp) (.int .i64 0)).set (o := 2) (by simp) (.string ⟨#[]⟩)
   have BV := ((b1.setCell (p := ⟨b, 0, none⟩) (Nat.le_refl _) (.string ⟨#[]⟩)).setCell (p := ⟨b, 1, none⟩) (Nat.le_refl _) (.int .i64 0)).setCell (p := ⟨b, 2, none⟩) (Nat.le_refl _) (.string ⟨#[]⟩)
   obtain ⟨V, hV⟩ : ∃ V, ((wr.setCell ⟨b, 0, none⟩ (.string ⟨#[]⟩)).setCell ⟨b, 1, none⟩ (.int .i64 0)).setCell ⟨b, 2, none⟩ (.string ⟨#[]⟩) = V := ⟨_, rfl⟩
   rw [hV] at RV BV
   have HV : Hid (_ = V) := hV
   have v0 := RV.at_ 0 _ rfl
   have v1 := RV.at_ 1 _ rfl
   have v2 := RV.at_ 2 _ rfl
   clear hV RV r1 b1
   go_wp2
   rw [HV.out]
   refine bodyPost_ret (v := .agg #[.string ⟨#[]⟩, .int .i64 0, .string ⟨#[]⟩]) (by simp [results, Tryz.results103, go_sem, v0, v1, v2]) rfl ?_
   exact fq_of HB.out HR2.out BV
set_option maxRecDepth 20000 in
set_option maxHeartbeats 4000000 in
theorem l13StageC (a : Option Addr) (c : Nat) (l : List En.Ob) (p : ByteArray) (s : Int) (w : World) (h : En.OB w.heap.size w a l) (hn : l.length <= 1048576) :
  Calls Tryz.prog 59 #[.slice a l.length c, .string p, .int .i64 s] w fun e w' => FQ (En.vf l p s) w e w' := by
 obtain ⟨b, hb⟩ : ∃ b, w.heap.size = b := ⟨_, rfl⟩
 have HB : Hid (w.heap.size = b) := hb
 obtain ⟨W1, hW1⟩ : ∃ W, w.alloc (.cells #[.string ⟨#[]⟩, .int .i64 0, .string ⟨#[]⟩] 34) = W := ⟨_, rfl⟩
 have b1 : Below b w W1 := by rw [<- hW1, <- hb]; exact allocBelow _ _
 have r1 : Rf W1 b [.string ⟨#[]⟩, .int .i64 0, .string ⟨#[]⟩] := by rw [<- hW1, <- hb]; exact Rf.new _ #[.string ⟨#[]⟩, .int .i64 0, .string ⟨#[]⟩] _
 have z1 : b < W1.heap.size := by rw [<- hW1, <- hb]; simp
 have A1 : En.OB W1.heap.size W1 a l := (by rw [<- hb] at b1; exact h.below b1 : En.OB w.heap.size W1 a l).mono (by omega)
 have hS := En.l10StageC a c l s W1 A1 hn
 have hL := En.stg_len l s
 clear h
 go_enter Tryz.func59, Tryz.ntmps59
 go_wp2_with fail
 refine hS.mono ?_; rintro e w2 ⟨v2, rfl, o2, b2⟩
 clear hb hW1
 obtain ⟨va, vc, ev⟩ := En.shapeK3 o2
 subst ev
 have hF := l7FindC va vc (En.stg l s) p w2 (Fl.OB.of o2) (by omega)
 rw [show En.ffF (En.stg l s) p = En.vf l p s from rfl] at hF
 have r2 := r1.below z1 b2
 have B2 := b1.trans (b2.mono (by omega))
 have z2 : b < w2.heap.size := Nat.lt_of_lt_of_le z1 b2.size
 generalize (En.stg l s).length = M at *
 clear o2 hS r1 b1 b2
 go_wp2_with fail
 refine hF.mono ?_; rintro e w3 ⟨rfl, b3⟩
 have r3 := r2.below z2 b3
 have B3 := B2.trans (b3.mono (by omega))
 obtain ⟨C, hC⟩ : ∃ C, En.vf l p s = C := ⟨_, rfl⟩
 obtain ⟨x0, x1, x2⟩ := C
 have HC : Hid (En.vf l p s = (x0, x1, x2)) := hC
 rw [hC]
 simp only []
 clear hF hC r2 B2 b3
 have c0 := r3.at_ 0 _ rfl
 have c1 := r3.at_ 1 _ rfl
 have c2 := r3.at_ 2 _ rfl
 have f0 := r3.fz 0
 have f1 := r3.fz 1
 have f2 := r3.fz 2
 have RV := ((r3.set (o := 0) (by simp) (.string x0)).set (o := 1) (by simp) (.int .i64 x1)).set (o := 2) (by simp) (.string x2)
 have BV := ((B3.setCell (p := ⟨b, 0, none⟩) (Nat.le_refl _) (.string x0)).setCell (p := ⟨b, 1, none⟩) (Nat.le_refl _) (.int .i64 x1)).setCell (p := ⟨b, 2, none⟩) (Nat.le_refl _) (.string x2)
 obtain ⟨V, hV⟩ : ∃ V, ((w3.setCell ⟨b, 0, none⟩ (.string x0)).setCell ⟨b, 1, none⟩ (.int .i64 x1)).setCell ⟨b, 2, none⟩ (.string x2) = V := ⟨_, rfl⟩
 rw [hV] at RV BV
 have HV : Hid (_ = V) := hV
 have v0 := RV.at_ 0 _ rfl
 have v1 := RV.at_ 1 _ rfl
 have v2 := RV.at_ 2 _ rfl
 clear hV RV r3 B3
 go_wp2
 rw [HV.out]
 refine bodyPost_ret (v := .agg #[.string x0, .int .i64 x1, .string x2]) (by simp [results, Tryz.results59, go_sem, v0, v1, v2]) rfl ?_
 exact fq_of HB.out HC.out BV
theorem litF (w : World) : (w.alloc (.cells #[] 34)).ownsRow w.heap.size 34 3 (.slice (some ⟨w.heap.size, 0, none⟩) 0 0) ([] : List Fl.Ob).length (Fl.ocells []) := World.ownsRow_lit w #[] 0 (Nat.le_refl _) (Nat.zero_le _) rfl
set_option maxRecDepth 20000 in
set_option maxHeartbeats 4000000 in
theorem l11SomeC (a : Option Addr) (c : Nat) (fs : List Fl.Ob) (w : World) (h : Fl.OB w.heap.size w a fs) (hn : fs.length <= 1048576) :
  Calls Tryz.prog 31 #[.slice a fs.length c] w fun e w' => En.SF (som fs) w e w' := by
 obtain ⟨q, hq⟩ : ∃ q, w.heap.size = q := ⟨_, rfl⟩
 have HQ : Hid (w.heap.size = q) := hq
 obtain ⟨W0, hW0⟩ : ∃ W, w.alloc (.cells #[] 34) = W := ⟨_, rfl⟩
 have b0 : Below q w W0 := by rw [<- hW0, <- hq]; exact allocBelow _ _
 have o0 : W0.ownsRow q 34 3 (.slice (some ⟨q, 0, none⟩) 0 0) (som (fs.take 0)).length (Fl.ocells (som (fs.take 0))) := by rw [<- hW0, <- hq]; exact litF w
 rw [hq] at h
 go_enter Tryz.func31, Tryz.ntmps31
 go_wp2
 clear hW0 hq
 go_loopw [3, 4] (fun o i wr => ∃ k : Nat, k <= fs.length /\ i = .int .i64 k /\ wr.ownsRow q 34 3 o (som (fs.take k)).length (Fl.ocells (som (fs.take k))) /\ Below q w wr) (fun _ i _ => fs.length - (intOf i).toNat)
 case atStart => exact ⟨0, Nat.zero_le _, rfl, o0, b0⟩
 case round =>
  obtain ⟨k, hk, rfl, ho, hbel⟩ := hrel
  clear o0 b0
  have hsz : q <= wr.heap.size := by have := hbel.size; have := HQ.out; omega
  by_cases hlt : k < fs.length
  ·have qk : (k : Int) < (fs.length : Int) := by omega
   obtain ⟨g, off, e, hg, d0, d1, d2⟩ := (flBelowAt h hbel (Nat.le_refl _)) k hlt
   subst e
   have hy := som_yes fs k hlt
   have hno := som_no fs k hlt
   have hln := som_len fs k
   obtain ⟨C, hCe⟩ : ∃ C, fs.getD k Fl.onil = C := ⟨_, rfl⟩
   obtain ⟨x0, x1, x2⟩ := C
   rw [hCe] at d0 d1 d2 hy hno
   simp only [] at d0 d1 d2
   obtain ⟨T, hTe⟩ : ∃ T, som (fs.take k) = T := ⟨_, rfl⟩
   rw [hTe] at ho hy hno hln
   obtain ⟨va, vc, rfl⟩ := En.shapeK3 ho
   clear hCe hTe
   by_cases hx : ((x0, x1, x2) : Fl.Ob) = Fl.onil
   ·have HN : Hid (som (fs.take (k + 1)) = T) := hno hx
    have hE := Fl.ef_nil hx
    have O1 : Hid (wr.ownsRow q 34 3 (.slice va T.length vc) T.length (Fl.ocells T)) := ho
    clear hy hno ho hx
    go_wp2
    go_roundw
    case rel => exact ⟨k + 1, by omega, by go_num, by rw [HN.out]; exact O1.out, hbel⟩
    case measure => first | (simp [intOf]; omega) | simp [intOf]
   ·have HY : Hid (som (fs.take (k + 1)) = T ++ [(x0, x1, x2)]) := hy hx
    have hE := Fl.ef_some hx
    have bN := allocBelow wr (.cells #[.string x0, .int .i64 x1, .string x2] 34)
    have o4 := ho.kept (grownOfBelow bN none) (blockCases _ _ fun b c1 c2 => by cases c2)
    have nw := En.newF wr (x0, x1, x2)
    have B4 : Below q w (wr.alloc (.cells #[.string x0, .int .i64 x1, .string x2] 34)) := hbel.trans (bN.mono hsz)
    have z4 : q <= (wr.alloc (.cells #[.string x0, .int .i64 x1, .string x2] 34)).heap.size := Nat.le_trans hsz bN.size
    clear hy hno ho hx bN hbel
    go_wp2_with (at_builtin; refine En.wpList_appF rfl (.tmp 18) (.tmp 23) rfl q (.slice va T.length vc) _ rfl o4 _ _ [(x0, x1, x2)] rfl nw (by simp; omega) z4 ?_; intro v5 w5 o5 g5 n5 k5)
    have B5 : Below q w w5 := B4.grown g5 z4 (fun j hj => (o4.lt j hj).1)
    have O5 : Hid (w5.ownsRow q 34 3 v5 (T ++ [(x0, x1, x2)]).length (Fl.ocells (T ++ [(x0, x1, x2)]))) := o5
    clear o4 nw g5 n5 B4 o5
    go_wp2
    go_roundw
    case rel => exact ⟨k + 1, by omega, by go_num, by rw [HY.out]; exact O5.out, B5⟩
    case measure => first | (simp [intOf]; omega) | simp [intOf]
  ·have qk : ¬ (k : Int) < (fs.length : Int) := by omega
   have ek : fs.take k = fs := List.take_of_length_le (by omega)
   rw [ek] at ho
   have HO : Hid (World.ownsRow _ _ _ _ _ _ _) := ho
   clear ho ek
   go_wp2
   go_ret
   exact ⟨_, rfl, by rw [HQ.out]; exact HO.out, by rw [HQ.out]; exact hbel⟩
set_option maxRecDepth 20000 in
set_option maxHeartbeats 4000000 in
theorem l11TextC (a : Option Addr) (c : Nat) (st : List Ob) (f : Fl.Ob) (w : World) (h : OB w.heap.size w a st) (hz : sf st = 0) (hn : st.length <= 1048576) :
  Calls Tryz.prog 83 #[.slice a st.length c, .agg #[.string f.1, .int .i64 f.2.1, .string f.2.2]] w fun e w' => e = .returned (.string (tx st f)) /\ Below w.heap.size w w' := by
 obtain ⟨x0, x1, x2⟩ := f
 simp only []
 obtain ⟨W1, hW1⟩ : ∃ W, w.alloc (.cells #[.string x0, .int .i64 x1, .string x2] 34) = W := ⟨_, rfl⟩
 have b1 : Below w.heap.size w W1 := by rw [<- hW1]; exact allocBelow _ _
 have r1 : Rs W1 w.heap.size [.string x0, .int .i64 x1, .string x2] := by rw [<- hW1]; exact Rs.new _ #[.string x0, .int .i64 x1, .string x2] _
 have A1 : OB W1.heap.size W1 a st := (h.below b1).mono b1.size
 have c0 := r1 0 _ rfl
 have c1 := r1 1 _ rfl
 have c2 := r1 2 _ rfl
 by_cases hx : ((x0, x1, x2) : Fl.Ob) = Fl.onil
 ·have hE := Fl.ef_nil hx
  have HT : Hid (tx st (x0, x1, x2) = ⟨#[]⟩) := by show _ = _; rw [hx]; exact tx_nil hz
  clear hx r1 A1 h
  go_enter Tryz.func83, Tryz.ntmps83
  go_wp2
  go_ret
  exact ⟨by rw [HT.out]; rfl, b1⟩
 ·have hE := Fl.ef_some hx
  have hG := l5Get a c st 1 x2 W1 A1 hn
  have HT : Hid (tx st (x0, x1, x2) = (gt st 1 x2).getD ⟨#[]⟩) := rfl
  generalize hGe : gt st 1 x2 = G at hG HT
  clear hx r1 A1 h hGe
  go_enter Tryz.func83, Tryz.ntmps83
  go_wp2_with fail
  refine hG.mono ?_; rintro e w2 ⟨rfl, rfl⟩
  go_wp2
  go_ret
  exact ⟨by rw [HT.out]; first | rfl | (cases G <;> rfl), b1⟩
end Go.Proofs.YtgincoiehbdphaaGreatDoor.Pv
set_option linter.unusedVariables false
namespace Go.Proofs.YtgincoiehbdphaaGreatDoor.Pv
open Go.ChangeShapes Go.WideShapes Go.ChangeAt Go.RowKit
def c9 (f g h : Fl.Ob) : List Value := [.string f.1, .int .i64 f.2.1, .string f.2.2, .string g.1, .int .i64 g.2.1, .string g.2.2, .string h.1, .int .i64 h.2.1, .string h.2.2]
theorem load9 {W : World} {b : Nat} {f g h : Fl.Ob} (RF : Rf W b (c9 f g h)) : (loadVar 70 ⟨b, 0, none⟩).run Tryz.prog W = .ok (.agg (c9 f g h).toArray) W := by
 have hl : (loadCells ⟨b, 0, none⟩ 9).run Tryz.prog W = .ok (c9 f g h).toArray W := run_loadCells_list (P := Tryz.prog) W ⟨b, 0, none⟩ (c9 f g h) (fun j v hj => by rw [add_plain, Nat.zero_add]; exact RF.at_ j v hj)
 have ha : ∀ W, (isAgg 70).run Tryz.prog W = .ok true W := fun W => by kernel_rfl
 have hz : ∀ W, (sizeOf 70).run Tryz.prog W = .ok 9 W := fun W => by kernel_rfl
 simp [loadVar, ha, hz, hl]
def VQ (f g h : Fl.Ob) (w : World) (e : Ending) (w' : World) : Prop := e = .returned (.agg (c9 f g h).toArray) /\ Below w.heap.size w w'
theorem zS {w w' : World} {g o : Nat} {v : Value} (b : Below w.heap.size w w') (h : w.cell? ⟨g, o, none⟩ = some v) : w'.cell? ⟨g, o, none⟩ = some v := (Fr.ofBelow (lo := 0) (hi := 0) b).cell h (.inr (Nat.zero_le _))
theorem obBelowAtE {B b : Nat} {w w' : World} {a : Option Addr} {l : List En.Ob} (h : En.OB B w a l) (hb : Below b w w') (hB : B <= b) : En.OB B w' a l := fun k hk => by
 obtain ⟨g, off, e, hg, d0, d1, d2, d3⟩ := h k hk
 have q : g < b := by omega
 exact ⟨g, off, e, hg, (hb.cell (p := ⟨g, _, none⟩) q).trans d0, (hb.cell (p := ⟨g, _, none⟩) q).trans d1, (hb.cell (p := ⟨g, _, none⟩) q).trans d2, (hb.cell (p := ⟨g, _, none⟩) q).trans d3⟩
theorem keep3 {u : World} {p g o o1 o2 o3 : Nat} {v1 v2 v3 x : Value} (hc : u.cell? ⟨g, o, none⟩ = some x) (h : g ≠ p) : (((u.setCell ⟨p, o1, none⟩ v1).setCell ⟨p, o2, none⟩ v2).setCell ⟨p, o3, none⟩ v3).cell? ⟨g, o, none⟩ = some x :=
 (grownTrans (grownTrans (grownSet u p o1 v1) (grownSet _ p o2 v2)) (grownSet _ p o3 v3)).cell hc (by simpa using h)
theorem rfKeep {w w' : World} {b : Nat} {vs : List Value} {row : Option Nat} (h : Rf w b vs) (hg : w.grownBy w' row) (hne : some b ≠ row) (hlt : b < w.heap.size) : Rf w' b vs :=
 ⟨fun k v hk => hg.cell (h.at_ k v hk) hne, fun k => by
  have e := hg.block b hlt hne
  have h1 := h.fz k
  unfold World.frozen? at h1 ⊢
  rw [e]; exact h1⟩
theorem at_no {p x0 : ByteArray} {x1 x2 : Int} {x3 : ByteArray} {s : Int} (h : ¬ (x1 = s /\ x0 = p)) : ¬ En.atP p s (x0, x1, x2, x3) = true := fun e => h (En.atP_iff.1 e)
theorem at_yes {p : ByteArray} {x2 : Int} {x3 : ByteArray} {s : Int} : En.atP p s (p, s, x2, x3) = true := En.atP_iff.2 ⟨rfl, rfl⟩
structure VA (l : List En.Ob) (p : ByteArray) (b : Nat) (w : World) (k : Nat) (wr : World) : Prop where
 v : Rf wr (b + 1) (c9 (En.vsK l p 1 k) (En.vsK l p 2 k) (En.vsK l p 3 k))
 r : Rf wr b (c9 Fl.onil Fl.onil Fl.onil)
 bel : Below b w wr
 lt : b + 2 <= wr.heap.size
theorem VA.step {l : List En.Ob} {p : ByteArray} {b : Nat} {w : World} {k : Nat} {wr W : World} (h : VA l p b w k wr) (hB : Below wr.heap.size wr W) : VA l p b w k W :=
 ⟨h.v.below (by have := h.lt; omega) hB, h.r.below (by have := h.lt; omega) hB, h.bel.trans (hB.mono (by have := h.lt; omega)), Nat.le_trans h.lt hB.size⟩
theorem VA.same {l : List En.Ob} {p : ByteArray} {b : Nat} {w : World} {k : Nat} {wr : World} (h : VA l p b w k wr) (h1 : En.vsK l p 1 (k + 1) = En.vsK l p 1 k) (h2 : En.vsK l p 2 (k + 1) = En.vsK l p 2 k) (h3 : En.vsK l p 3 (k + 1) = En.vsK l p 3 k) : VA l p b w (k + 1) wr :=
 ⟨by rw [h1, h2, h3]; exact h.v, h.r, h.bel, h.lt⟩
set_option maxRecDepth 20000 in
set_option maxHeartbeats 8000000 in
theorem versionsAtC (a : Option Addr) (c : Nat) (l : List En.Ob) (p : ByteArray) (w : World) (h : En.OB w.heap.size w a l) (h0 : En.ixf l = 0) :
  Calls Tryz.prog 68 #[.slice a l.length c, .string p] w fun e w' => VQ (En.vf l p 1) (En.vf l p 2) (En.vf l p 3) w e w' := by
 obtain ⟨hn, hst⟩ := En.ixf_zero h0
 have HS : Hid (∀ k, k < l.length -> 0 <= (l.getD k En.onil).2.1 /\ (l.getD k En.onil).2.1 <= 3) := fun k hk => En.ix_stage (hst k hk)
 have HV : Hid (∀ s, En.vsK l p s l.length = En.vf l p s) := fun s => En.vs_vf h0 p s
 clear h0 hst
 obtain ⟨b, hb⟩ : ∃ b, w.heap.size = b := ⟨_, rfl⟩
 have HB : Hid (w.heap.size = b) := hb
 obtain ⟨W1, hW1⟩ : ∃ W, (w.alloc (.cells #[.string ⟨#[]⟩, .int .i64 0, .string ⟨#[]⟩, .string ⟨#[]⟩, .int .i64 0, .string ⟨#[]⟩, .string ⟨#[]⟩, .int .i64 0, .string ⟨#[]⟩] 70)).alloc (.cells #[.string ⟨#[]⟩, .int .i64 0, .string ⟨#[]⟩, .string ⟨#[]⟩, .int .i64 0, .string ⟨#[]⟩, .string ⟨#[]⟩, .int .i64 0, .string ⟨#[]⟩] 70) = W := ⟨_, rfl⟩
 have za : (w.alloc (.cells #[.string ⟨#[]⟩, .int .i64 0, .string ⟨#[]⟩, .string ⟨#[]⟩, .int .i64 0, .string ⟨#[]⟩, .string ⟨#[]⟩, .int .i64 0, .string ⟨#[]⟩] 70)).heap.size = b + 1 := by rw [<- hb]; simp
 have VA1 : VA l p b w 0 W1 := by
  refine ⟨?_, ?_, ?_, ?_⟩
  ·rw [<- hW1, <- za]; exact Rf.new _ #[.string ⟨#[]⟩, .int .i64 0, .string ⟨#[]⟩, .string ⟨#[]⟩, .int .i64 0, .string ⟨#[]⟩, .string ⟨#[]⟩, .int .i64 0, .string ⟨#[]⟩] _
  ·rw [<- hW1, <- hb]; exact (Rf.new w #[.string ⟨#[]⟩, .int .i64 0, .string ⟨#[]⟩, .string ⟨#[]⟩, .int .i64 0, .string ⟨#[]⟩, .string ⟨#[]⟩, .int .i64 0, .string ⟨#[]⟩] _).below (by simp) (allocBelow _ _)
  ·rw [<- hW1, <- hb]; exact ((Below.refl _ _).alloc (Nat.le_refl _) _).alloc (by simp) _
  ·rw [<- hW1, <- hb]; simp
 have A1 : En.OB b W1 a l := by have := VA1.bel; rw [<- hb] at this ⊢; exact h.below this
 clear h za
 go_enter Tryz.func68, Tryz.ntmps68
 go_wp2
 clear hb hW1
 go_loopw [7, 10] (fun _e i wr => ∃ k : Nat, k <= l.length /\ i = .int .i64 k /\ VA l p b w k wr /\ Below b W1 wr) (fun _ i _ => l.length - (intOf i).toNat)
 case atStart => exact ⟨0, Nat.zero_le _, rfl, VA1, Below.refl _ _⟩
 case round =>
  obtain ⟨k, hk, rfl, va, hbel⟩ := hrel
  by_cases hlt : k < l.length
  ·have qk : (k : Int) < (l.length : Int) := by omega
   obtain ⟨g, off, e, hg, d0, d1, d2, d3⟩ := (obBelowAtE A1 hbel (Nat.le_refl _)) k hlt
   subst e
   have hs := HS.out k hlt
   have hy := fun s => @En.vsK_yes l p s k
   have hno := fun s => @En.vsK_no l p s k
   obtain ⟨C, hCe⟩ : ∃ C, l.getD k En.onil = C := ⟨_, rfl⟩
   obtain ⟨x0, x1, x2, x3⟩ := C
   rw [hCe] at d0 d1 d2 d3 hs hy hno
   simp only [] at d0 d1 d2 d3 hs
   obtain ⟨W, hW⟩ : ∃ W, wr.alloc (.cells #[.string x0, .int .i64 x1, .int .i64 x2, .string x3] 106) = W := ⟨_, rfl⟩
   have bW : Below wr.heap.size wr W := by rw [<- hW]; exact allocBelow _ _
   have oW : Rs W wr.heap.size [.string x0, .int .i64 x1, .int .i64 x2, .string x3] := by rw [<- hW]; exact Rs.new wr #[.string x0, .int .i64 x1, .int .i64 x2, .string x3] _
   have zW : wr.heap.size < W.heap.size := by rw [<- hW]; simp
   have m0 := oW 0 _ rfl
   have m1 := oW 1 _ rfl
   have m2 := oW 2 _ rfl
   have m3 := oW 3 _ rfl
   have vW := va.step bW
   have belW : Below b W1 W := hbel.trans (bW.mono (by have := va.lt; omega))
   have HLT : Hid (b + 2 <= wr.heap.size) := va.lt
   clear hCe oW bW va hbel VA1
   by_cases hx : x0 = p
   ·subst hx
    have hb : (x0.toList == x0.toList) = true := beq_bytes_true rfl
    by_cases hz : x1 = 0
    ·subst hz
     have HF : Hid (VA l x0 b w (k + 1) W) := vW.same (hno 1 (at_no (by omega))) (hno 2 (at_no (by omega))) (hno 3 (at_no (by omega)))
     clear vW hy hno
     go_wp2
     go_roundw
     case rel => exact ⟨k + 1, by omega, by go_num, HF.out, belW⟩
     case measure => first | (simp [intOf]; omega) | simp [intOf]
    ·have qz : (x1 != 0) = true := by simp [hz]
     have h123 : x1 = 1 \/ x1 = 2 \/ x1 = 3 := by omega
     have hFi := fun s W => En.fileInC (x0, s, x2, x3) W
     simp only [] at hFi
     have BD : Below W.heap.size W W.drew := (Below.refl _ _).drew
     clear hs hz
     rcases h123 with e | e | e
     ·subst e
      have R0 := vW.v
      have hgb : wr.heap.size ≠ b + 1 := by have := HLT.out; omega
      have hF1 := hFi 1
      have HY : Hid (En.vsK l x0 1 (k + 1) = (x0, x2, x3)) := hy 1 at_yes
      have HN2 : Hid (En.vsK l x0 2 (k + 1) = En.vsK l x0 2 k) := hno 2 (at_no (by omega))
      have HN3 : Hid (En.vsK l x0 3 (k + 1) = En.vsK l x0 3 k) := hno 3 (at_no (by omega))
      clear hy hno hFi
      unfold c9 at R0
      go_wp2_with fail
      clear hW
      go_region_held (fun w' => w'.cell? ⟨wr.heap.size, 0, none⟩ = some (.string x0) /\ w'.cell? ⟨wr.heap.size, 1, none⟩ = some (.int .i64 1) /\ w'.cell? ⟨wr.heap.size, 2, none⟩ = some (.int .i64 x2) /\ w'.cell? ⟨wr.heap.size, 3, none⟩ = some (.string x3)) (first | with_reducible exact ⟨m0, m1, m2, m3⟩ | with_reducible exact ⟨n0, n1, n2, n3⟩ | with_reducible exact ⟨s0, s1, s2, s3⟩ | exact ⟨m0, m1, m2, m3⟩)
       ((go_at_call 118; refine (hF1 _).mono ?_; rintro e w6 ⟨rfl, b6⟩; have n0 := zS b6 m0; have n1 := zS b6 m1; have n2 := zS b6 m2; have n3 := zS b6 m3; have B6 : Below W.heap.size W w6 := BD.trans (b6.mono BD.size); have R6 := R0.below (by have := vW.lt; omega) B6; have q0 := R6.at_ 0 _ rfl; have q1 := R6.at_ 1 _ rfl; have q2 := R6.at_ 2 _ rfl; have z0 := R6.fz 0; have z1 := R6.fz 1; have z2 := R6.fz 2; have s0 : (((w6.setCell ⟨b + 1, 0, none⟩ (.string x0)).setCell ⟨b + 1, 1, none⟩ (.int .i64 x2)).setCell ⟨b + 1, 2, none⟩ (.string x3)).cell? ⟨wr.heap.size, 0, none⟩ = some (.string x0) := keep3 n0 hgb; have s1 : (((w6.setCell ⟨b + 1, 0, none⟩ (.string x0)).setCell ⟨b + 1, 1, none⟩ (.int .i64 x2)).setCell ⟨b + 1, 2, none⟩ (.string x3)).cell? ⟨wr.heap.size, 1, none⟩ = some (.int .i64 1) := keep3 n1 hgb; have s2 : (((w6.setCell ⟨b + 1, 0, none⟩ (.string x0)).setCell ⟨b + 1, 1, none⟩ (.int .i64 x2)).setCell ⟨b + 1, 2, none⟩ (.string x3)).cell? ⟨wr.heap.size, 2, none⟩ = some (.int .i64 x2) := keep3 n2 hgb; have s3 : (((w6.setCell ⟨b + 1, 0, none⟩ (.string x0)).setCell ⟨b + 1, 1, none⟩ (.int .i64 x2)).setCell ⟨b + 1, 2, none⟩ (.string x3)).cell? ⟨wr.heap.size, 3, none⟩ = some (.string x3) := keep3 n3 hgb))
      all_goals
       have v6 := vW.step B6
       have RN := ((R6.set (o := 0) (by simp) (.string x0)).set (o := 1) (by simp) (.int .i64 x2)).set (o := 2) (by simp) (.string x3)
       have HF : Hid (VA l x0 b w (k + 1) (((w6.setCell ⟨b + 1, 0, none⟩ (.string x0)).setCell ⟨b + 1, 1, none⟩ (.int .i64 x2)).setCell ⟨b + 1, 2, none⟩ (.string x3))) := by
        refine ⟨?_, ?_, ((v6.bel.setCell (p := ⟨b + 1, 0, none⟩) (by show b <= b + 1; omega) _).setCell (p := ⟨b + 1, 1, none⟩) (by show b <= b + 1; omega) _).setCell (p := ⟨b + 1, 2, none⟩) (by show b <= b + 1; omega) _, by simp only [World.size_setCell]; exact v6.lt⟩
        ·rw [HY.out, HN2.out, HN3.out]; exact RN
        ·have g3 := grownTrans (grownTrans (grownSet w6 (b + 1) 0 (.string x0)) (grownSet _ (b + 1) 1 (.int .i64 x2))) (grownSet _ (b + 1) 2 (.string x3))
         exact rfKeep v6.r g3 (by simp) (by have := v6.lt; omega)
       have BN : Below b W1 (((w6.setCell ⟨b + 1, 0, none⟩ (.string x0)).setCell ⟨b + 1, 1, none⟩ (.int .i64 x2)).setCell ⟨b + 1, 2, none⟩ (.string x3)) := (((belW.trans (B6.mono (by have := vW.lt; omega))).setCell (p := ⟨b + 1, 0, none⟩) (by show b <= b + 1; omega) _).setCell (p := ⟨b + 1, 1, none⟩) (by show b <= b + 1; omega) _).setCell (p := ⟨b + 1, 2, none⟩) (by show b <= b + 1; omega) _
       clear vW v6 RN R6 R0 belW hF1
       go_wp2
       go_roundw
       case rel => exact ⟨k + 1, by omega, by go_num, HF.out, BN⟩
       case measure => first | (simp [intOf]; omega) | simp [intOf]
     ·subst e
      have R0 := vW.v
      have hgb : wr.heap.size ≠ b + 1 := by have := HLT.out; omega
      have hF1 := hFi 2
      have HY : Hid (En.vsK l x0 2 (k + 1) = (x0, x2, x3)) := hy 2 at_yes
      have HN1 : Hid (En.vsK l x0 1 (k + 1) = En.vsK l x0 1 k) := hno 1 (at_no (by omega))
      have HN3 : Hid (En.vsK l x0 3 (k + 1) = En.vsK l x0 3 k) := hno 3 (at_no (by omega))
      clear hy hno hFi
      unfold c9 at R0
      go_wp2_with fail
      clear hW
      go_region_held (fun w' => w'.cell? ⟨wr.heap.size, 0, none⟩ = some (.string x0) /\ w'.cell? ⟨wr.heap.size, 1, none⟩ = some (.int .i64 2) /\ w'.cell? ⟨wr.heap.size, 2, none⟩ = some (.int .i64 x2) /\ w'.cell? ⟨wr.heap.size, 3, none⟩ = some (.string x3)) (first | with_reducible exact ⟨m0, m1, m2, m3⟩ | with_reducible exact ⟨n0, n1, n2, n3⟩ | with_reducible exact ⟨s0, s1, s2, s3⟩ | exact ⟨m0, m1, m2, m3⟩)
       ((go_at_call 118; refine (hF1 _).mono ?_; rintro e w6 ⟨rfl, b6⟩; have n0 := zS b6 m0; have n1 := zS b6 m1; have n2 := zS b6 m2; have n3 := zS b6 m3; have B6 : Below W.heap.size W w6 := BD.trans (b6.mono BD.size); have R6 := R0.below (by have := vW.lt; omega) B6; have q0 := R6.at_ 3 _ rfl; have q1 := R6.at_ 4 _ rfl; have q2 := R6.at_ 5 _ rfl; have z0 := R6.fz 3; have z1 := R6.fz 4; have z2 := R6.fz 5; have s0 : (((w6.setCell ⟨b + 1, 3, none⟩ (.string x0)).setCell ⟨b + 1, 4, none⟩ (.int .i64 x2)).setCell ⟨b + 1, 5, none⟩ (.string x3)).cell? ⟨wr.heap.size, 0, none⟩ = some (.string x0) := keep3 n0 hgb; have s1 : (((w6.setCell ⟨b + 1, 3, none⟩ (.string x0)).setCell ⟨b + 1, 4, none⟩ (.int .i64 x2)).setCell ⟨b + 1, 5, none⟩ (.string x3)).cell? ⟨wr.heap.size, 1, none⟩ = some (.int .i64 2) := keep3 n1 hgb; have s2 : (((w6.setCell ⟨b + 1, 3, none⟩ (.string x0)).setCell ⟨b + 1, 4, none⟩ (.int .i64 x2)).setCell ⟨b + 1, 5, none⟩ (.string x3)).cell? ⟨wr.heap.size, 2, none⟩ = some (.int .i64 x2) := keep3 n2 hgb; have s3 : (((w6.setCell ⟨b + 1, 3, none⟩ (.string x0)).setCell ⟨b + 1, 4, none⟩ (.int .i64 x2)).setCell ⟨b + 1, 5, none⟩ (.string x3)).cell? ⟨wr.heap.size, 3, none⟩ = some (.string x3) := keep3 n3 hgb))
      all_goals
       have v6 := vW.step B6
       have RN := ((R6.set (o := 3) (by simp) (.string x0)).set (o := 4) (by simp) (.int .i64 x2)).set (o := 5) (by simp) (.string x3)
       have HF : Hid (VA l x0 b w (k + 1) (((w6.setCell ⟨b + 1, 3, none⟩ (.string x0)).setCell ⟨b + 1, 4, none⟩ (.int .i64 x2)).setCell ⟨b + 1, 5, none⟩ (.string x3))) := by
        refine ⟨?_, ?_, ((v6.bel.setCell (p := ⟨b + 1, 3, none⟩) (by show b <= b + 1; omega) _).setCell (p := ⟨b + 1, 4, none⟩) (by show b <= b + 1; omega) _).setCell (p := ⟨b + 1, 5, none⟩) (by show b <= b + 1; omega) _, by simp only [World.size_setCell]; exact v6.lt⟩
        ·rw [HN1.out, HY.out, HN3.out]; exact RN
        ·have g3 := grownTrans (grownTrans (grownSet w6 (b + 1) 3 (.string x0)) (grownSet _ (b + 1) 4 (.int .i64 x2))) (grownSet _ (b + 1) 5 (.string x3))
         exact rfKeep v6.r g3 (by simp) (by have := v6.lt; omega)
       have BN : Below b W1 (((w6.setCell ⟨b + 1, 3, none⟩ (.string x0)).setCell ⟨b + 1, 4, none⟩ (.int .i64 x2)).setCell ⟨b + 1, 5, none⟩ (.string x3)) := (((belW.trans (B6.mono (by have := vW.lt; omega))).setCell (p := ⟨b + 1, 3, none⟩) (by show b <= b + 1; omega) _).setCell (p := ⟨b + 1, 4, none⟩) (by show b <= b + 1; omega) _).setCell (p := ⟨b + 1, 5, none⟩) (by show b <= b + 1; omega) _
       clear vW v6 RN R6 R0 belW hF1
       go_wp2
       go_roundw
       case rel => exact ⟨k + 1, by omega, by go_num, HF.out, BN⟩
       case measure => first | (simp [intOf]; omega) | simp [intOf]
     ·subst e
      have R0 := vW.v
      have hgb : wr.heap.size ≠ b + 1 := by have := HLT.out; omega
      have hF1 := hFi 3
      have HY : Hid (En.vsK l x0 3 (k + 1) = (x0, x2, x3)) := hy 3 at_yes
      have HN1 : Hid (En.vsK l x0 1 (k + 1) = En.vsK l x0 1 k) := hno 1 (at_no (by omega))
      have HN2 : Hid (En.vsK l x0 2 (k + 1) = En.vsK l x0 2 k) := hno 2 (at_no (by omega))
      clear hy hno hFi
      unfold c9 at R0
      go_wp2_with fail
      clear hW
      go_region_held (fun w' => w'.cell? ⟨wr.heap.size, 0, none⟩ = some (.string x0) /\ w'.cell? ⟨wr.heap.size, 1, none⟩ = some (.int .i64 3) /\ w'.cell? ⟨wr.heap.size, 2, none⟩ = some (.int .i64 x2) /\ w'.cell? ⟨wr.heap.size, 3, none⟩ = some (.string x3)) (first | with_reducible exact ⟨m0, m1, m2, m3⟩ | with_reducible exact ⟨n0, n1, n2, n3⟩ | with_reducible exact ⟨s0, s1, s2, s3⟩ | exact ⟨m0, m1, m2, m3⟩)
       ((go_at_call 118; refine (hF1 _).mono ?_; rintro e w6 ⟨rfl, b6⟩; have n0 := zS b6 m0; have n1 := zS b6 m1; have n2 := zS b6 m2; have n3 := zS b6 m3; have B6 : Below W.heap.size W w6 := BD.trans (b6.mono BD.size); have R6 := R0.below (by have := vW.lt; omega) B6; have q0 := R6.at_ 6 _ rfl; have q1 := R6.at_ 7 _ rfl; have q2 := R6.at_ 8 _ rfl; have z0 := R6.fz 6; have z1 := R6.fz 7; have z2 := R6.fz 8; have s0 : (((w6.setCell ⟨b + 1, 6, none⟩ (.string x0)).setCell ⟨b + 1, 7, none⟩ (.int .i64 x2)).setCell ⟨b + 1, 8, none⟩ (.string x3)).cell? ⟨wr.heap.size, 0, none⟩ = some (.string x0) := keep3 n0 hgb; have s1 : (((w6.setCell ⟨b + 1, 6, none⟩ (.string x0)).setCell ⟨b + 1, 7, none⟩ (.int .i64 x2)).setCell ⟨b + 1, 8, none⟩ (.string x3)).cell? ⟨wr.heap.size, 1, none⟩ = some (.int .i64 3) := keep3 n1 hgb; have s2 : (((w6.setCell ⟨b + 1, 6, none⟩ (.string x0)).setCell ⟨b + 1, 7, none⟩ (.int .i64 x2)).setCell ⟨b + 1, 8, none⟩ (.string x3)).cell? ⟨wr.heap.size, 2, none⟩ = some (.int .i64 x2) := keep3 n2 hgb; have s3 : (((w6.setCell ⟨b + 1, 6, none⟩ (.string x0)).setCell ⟨b + 1, 7, none⟩ (.int .i64 x2)).setCell ⟨b + 1, 8, none⟩ (.string x3)).cell? ⟨wr.heap.size, 3, none⟩ = some (.string x3) := keep3 n3 hgb))
      all_goals
       have v6 := vW.step B6
       have RN := ((R6.set (o := 6) (by simp) (.string x0)).set (o := 7) (by simp) (.int .i64 x2)).set (o := 8) (by simp) (.string x3)
       have HF : Hid (VA l x0 b w (k + 1) (((w6.setCell ⟨b + 1, 6, none⟩ (.string x0)).setCell ⟨b + 1, 7, none⟩ (.int .i64 x2)).setCell ⟨b + 1, 8, none⟩ (.string x3))) := by
        refine ⟨?_, ?_, ((v6.bel.setCell (p := ⟨b + 1, 6, none⟩) (by show b <= b + 1; omega) _).setCell (p := ⟨b + 1, 7, none⟩) (by show b <= b + 1; omega) _).setCell (p := ⟨b + 1, 8, none⟩) (by show b <= b + 1; omega) _, by simp only [World.size_setCell]; exact v6.lt⟩
        ·rw [HN1.out, HN2.out, HY.out]; exact RN
        ·have g3 := grownTrans (grownTrans (grownSet w6 (b + 1) 6 (.string x0)) (grownSet _ (b + 1) 7 (.int .i64 x2))) (grownSet _ (b + 1) 8 (.string x3))
         exact rfKeep v6.r g3 (by simp) (by have := v6.lt; omega)
       have BN : Below b W1 (((w6.setCell ⟨b + 1, 6, none⟩ (.string x0)).setCell ⟨b + 1, 7, none⟩ (.int .i64 x2)).setCell ⟨b + 1, 8, none⟩ (.string x3)) := (((belW.trans (B6.mono (by have := vW.lt; omega))).setCell (p := ⟨b + 1, 6, none⟩) (by show b <= b + 1; omega) _).setCell (p := ⟨b + 1, 7, none⟩) (by show b <= b + 1; omega) _).setCell (p := ⟨b + 1, 8, none⟩) (by show b <= b + 1; omega) _
       clear vW v6 RN R6 R0 belW hF1
       go_wp2
       go_roundw
       case rel => exact ⟨k + 1, by omega, by go_num, HF.out, BN⟩
       case measure => first | (simp [intOf]; omega) | simp [intOf]
   ·have hb : (x0.toList == p.toList) = false := beq_bytes_false hx
    have HF : Hid (VA l p b w (k + 1) W) := vW.same (hno 1 (at_no (fun q => hx q.2))) (hno 2 (at_no (fun q => hx q.2))) (hno 3 (at_no (fun q => hx q.2)))
    clear vW hy hno hx
    go_wp2
    go_roundw
    case rel => exact ⟨k + 1, by omega, by go_num, HF.out, belW⟩
    case measure => first | (simp [intOf]; omega) | simp [intOf]
  ·have qk : ¬ (k : Int) < (l.length : Int) := by omega
   have ek : k = l.length := by omega
   subst ek
   have v9 := va.v
   rw [HV.out 1, HV.out 2, HV.out 3] at v9
   obtain ⟨F, hF⟩ : ∃ F, En.vf l p 1 = F := ⟨_, rfl⟩
   obtain ⟨G, hG⟩ : ∃ F, En.vf l p 2 = F := ⟨_, rfl⟩
   obtain ⟨H, hH⟩ : ∃ F, En.vf l p 3 = F := ⟨_, rfl⟩
   obtain ⟨f0, f1, f2⟩ := F
   obtain ⟨g0, g1, g2⟩ := G
   obtain ⟨h0, h1, h2⟩ := H
   rw [hF, hG, hH] at v9
   have HFG : Hid (En.vf l p 1 = (f0, f1, f2) /\ En.vf l p 2 = (g0, g1, g2) /\ En.vf l p 3 = (h0, h1, h2)) := ⟨hF, hG, hH⟩
   unfold c9 at v9
   simp only [] at v9
   have rr := va.r
   unfold c9 at rr
   have B9 := va.bel
   have a0 := v9.at_ 0 _ rfl
   have d0 := rr.at_ 0 _ rfl
   have z0 := rr.fz 0
   have a1 := v9.at_ 1 _ rfl
   have d1 := rr.at_ 1 _ rfl
   have z1 := rr.fz 1
   have a2 := v9.at_ 2 _ rfl
   have d2 := rr.at_ 2 _ rfl
   have z2 := rr.fz 2
   have a3 := v9.at_ 3 _ rfl
   have d3 := rr.at_ 3 _ rfl
   have z3 := rr.fz 3
   have a4 := v9.at_ 4 _ rfl
   have d4 := rr.at_ 4 _ rfl
   have z4 := rr.fz 4
   have a5 := v9.at_ 5 _ rfl
   have d5 := rr.at_ 5 _ rfl
   have z5 := rr.fz 5
   have a6 := v9.at_ 6 _ rfl
   have d6 := rr.at_ 6 _ rfl
   have z6 := rr.fz 6
   have a7 := v9.at_ 7 _ rfl
   have d7 := rr.at_ 7 _ rfl
   have z7 := rr.fz 7
   have a8 := v9.at_ 8 _ rfl
   have d8 := rr.at_ 8 _ rfl
   have z8 := rr.fz 8
   have RF := (((((((((rr.set (o := 0) (by simp) (.string f0)).set (o := 1) (by simp) (.int .i64 f1)).set (o := 2) (by simp) (.string f2)).set (o := 3) (by simp) (.string g0)).set (o := 4) (by simp) (.int .i64 g1)).set (o := 5) (by simp) (.string g2)).set (o := 6) (by simp) (.string h0)).set (o := 7) (by simp) (.int .i64 h1)).set (o := 8) (by simp) (.string h2))
   have BF := (((((((((B9.setCell (p := ⟨b, 0, none⟩) (Nat.le_refl _) (.string f0)).setCell (p := ⟨b, 1, none⟩) (Nat.le_refl _) (.int .i64 f1)).setCell (p := ⟨b, 2, none⟩) (Nat.le_refl _) (.string f2)).setCell (p := ⟨b, 3, none⟩) (Nat.le_refl _) (.string g0)).setCell (p := ⟨b, 4, none⟩) (Nat.le_refl _) (.int .i64 g1)).setCell (p := ⟨b, 5, none⟩) (Nat.le_refl _) (.string g2)).setCell (p := ⟨b, 6, none⟩) (Nat.le_refl _) (.string h0)).setCell (p := ⟨b, 7, none⟩) (Nat.le_refl _) (.int .i64 h1)).setCell (p := ⟨b, 8, none⟩) (Nat.le_refl _) (.string h2))
   obtain ⟨WF, hWF⟩ : ∃ W, (((((((((wr.setCell ⟨b, 0, none⟩ (.string f0)).setCell ⟨b, 1, none⟩ (.int .i64 f1)).setCell ⟨b, 2, none⟩ (.string f2)).setCell ⟨b, 3, none⟩ (.string g0)).setCell ⟨b, 4, none⟩ (.int .i64 g1)).setCell ⟨b, 5, none⟩ (.string g2)).setCell ⟨b, 6, none⟩ (.string h0)).setCell ⟨b, 7, none⟩ (.int .i64 h1)).setCell ⟨b, 8, none⟩ (.string h2)) = W := ⟨_, rfl⟩
   rw [hWF] at RF BF
   have HWF : Hid (_ = WF) := hWF
   clear hWF v9 rr va hbel HS HV hF hG hH
   go_wp2
   rw [HWF.out]
   have RF2 : Rf WF b (c9 (f0, f1, f2) (g0, g1, g2) (h0, h1, h2)) := RF
   refine bodyPost_ret (v := .agg (c9 (f0, f1, f2) (g0, g1, g2) (h0, h1, h2)).toArray) (by simp [results, Tryz.results68, asAddr, load9 RF2]) rfl ?_
   rw [HFG.out.1, HFG.out.2.1, HFG.out.2.2]
   exact ⟨rfl, by rw [HB.out]; exact BF⟩
end Go.Proofs.YtgincoiehbdphaaGreatDoor.Pv
