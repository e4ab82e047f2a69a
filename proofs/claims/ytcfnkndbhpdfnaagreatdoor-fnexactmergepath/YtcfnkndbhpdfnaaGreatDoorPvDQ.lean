/- PreOf of the program. No statement is proved here. -/
import Derived.Test.YtcfnkndbhpdfnaaGreatDoorNoIQ
import Derived.Test.YtcfnkndbhpdfnaaGreatDoorSplIQ
set_option linter.unusedVariables false
namespace Go.Proofs.YtcfnkndbhpdfnaaGreatDoor.Pv
open Go.ChangeShapes Go.WideShapes Go.ChangeAt Go.RowKit
theorem files9 (f0 f2 g0 g2 h0 h2 : ByteArray) (f1 g1 h1 : Int) (k : Nat) (hk : k < 3) : ∃ x0 x1 x2, [((f0, f1, f2) : Fl.Ob), (g0, g1, g2), (h0, h1, h2)].getD k Fl.onil = (x0, x1, x2) /\ ∀ w, (Instr.index 53 (.agg #[.string f0, .int .i64 f1, .string f2, .string g0, .int .i64 g1, .string g2, .string h0, .int .i64 h1, .string h2]) (.int .i64 (k : Int))).run Tryz.prog w = .ok (.agg #[.string x0, .int .i64 x1, .string x2]) w := by
 have h : k = 0 \/ k = 1 \/ k = 2 := by omega
 rcases h with rfl | rfl | rfl
 ·exact ⟨f0, f1, f2, rfl, fun _ => by kernel_rfl⟩
 ·exact ⟨g0, g1, g2, rfl, fun _ => by kernel_rfl⟩
 ·exact ⟨h0, h1, h2, rfl, fun _ => by kernel_rfl⟩
set_option maxRecDepth 20000 in
set_option maxHeartbeats 4000000 in
theorem filesC (f0 f2 g0 g2 h0 h2 : ByteArray) (f1 g1 h1 : Int) (w : World) :
  Calls Tryz.prog 28 #[.agg #[.string f0, .int .i64 f1, .string f2, .string g0, .int .i64 g1, .string g2, .string h0, .int .i64 h1, .string h2]] w fun e w' => En.SF (som [((f0, f1, f2) : Fl.Ob), (g0, g1, g2), (h0, h1, h2)]) w e w' := by
 have HI : Hid (∀ k, k < 3 -> ∃ x0 x1 x2, [((f0, f1, f2) : Fl.Ob), (g0, g1, g2), (h0, h1, h2)].getD k Fl.onil = (x0, x1, x2) /\ ∀ w, (Instr.index 53 (.agg #[.string f0, .int .i64 f1, .string f2, .string g0, .int .i64 g1, .string g2, .string h0, .int .i64 h1, .string h2]) (.int .i64 (k : Int))).run Tryz.prog w = .ok (.agg #[.string x0, .int .i64 x1, .string x2]) w) := fun k hk => files9 f0 f2 g0 g2 h0 h2 f1 g1 h1 k hk
 obtain ⟨fs, hfs⟩ : ∃ fs, [((f0, f1, f2) : Fl.Ob), (g0, g1, g2), (h0, h1, h2)] = fs := ⟨_, rfl⟩
 have hfl : fs.length = 3 := by rw [<- hfs]; rfl
 rw [hfs] at HI ⊢
 have HL : Hid (fs.length = 3) := hfl
 obtain ⟨q, hq⟩ : ∃ q, w.heap.size = q := ⟨_, rfl⟩
 have HQ : Hid (w.heap.size = q) := hq
 obtain ⟨W1, hW1⟩ : ∃ W, w.alloc (.cells #[.string f0, .int .i64 f1, .string f2, .string g0, .int .i64 g1, .string g2, .string h0, .int .i64 h1, .string h2] 53) = W := ⟨_, rfl⟩
 have b1 : Below q w W1 := by rw [<- hW1, <- hq]; exact allocBelow _ _
 have r1 : Rf W1 q [.string f0, .int .i64 f1, .string f2, .string g0, .int .i64 g1, .string g2, .string h0, .int .i64 h1, .string h2] := by rw [<- hW1, <- hq]; exact Rf.new _ #[.string f0, .int .i64 f1, .string f2, .string g0, .int .i64 g1, .string g2, .string h0, .int .i64 h1, .string h2] _
 have z1 : q <= W1.heap.size := by rw [<- hW1, <- hq]; simp
 have c0 := r1.at_ 0 _ rfl
 have c1 := r1.at_ 1 _ rfl
 have c2 := r1.at_ 2 _ rfl
 have c3 := r1.at_ 3 _ rfl
 have c4 := r1.at_ 4 _ rfl
 have c5 := r1.at_ 5 _ rfl
 have c6 := r1.at_ 6 _ rfl
 have c7 := r1.at_ 7 _ rfl
 have c8 := r1.at_ 8 _ rfl
 clear hfs hfl r1
 go_enter Tryz.func28, Tryz.ntmps28
 go_wp2
 clear hq hW1
 go_loopw [3, 5, 7] (fun o _p i wr => ∃ k : Nat, k <= 3 /\ i = .int .i64 k /\ wr.ownsRow q 34 3 o (som (fs.take k)).length (Fl.ocells (som (fs.take k))) /\ Below q w wr /\ q <= wr.heap.size) (fun _ _ i _ => 3 - (intOf i).toNat)
 case atStart => exact ⟨0, Nat.zero_le _, rfl, ⟨rfl, .inl ⟨rfl, rfl⟩⟩, b1, z1⟩
 case round =>
  obtain ⟨k, hk, rfl, ho, hbel, hsz⟩ := hrel
  clear b1 z1 c0 c1 c2 c3 c4 c5 c6 c7 c8
  by_cases hlt : k < 3
  ·have qk : (k : Int) < 3 := by omega
   obtain ⟨x0, x1, x2, hxe, hix⟩ := HI.out k hlt
   have hkl : k < fs.length := by rw [HL.out]; exact hlt
   have hy := som_yes fs k hkl
   have hno := som_no fs k hkl
   have hln := som_len fs k
   rw [hxe] at hy hno
   obtain ⟨T, hTe⟩ : ∃ T, som (fs.take k) = T := ⟨_, rfl⟩
   rw [hTe] at ho hy hno hln
   obtain ⟨va, vc, rfl⟩ := En.shapeK3 ho
   obtain ⟨W, hW⟩ : ∃ W, wr.alloc (.cells #[.string x0, .int .i64 x1, .string x2] 34) = W := ⟨_, rfl⟩
   have bW : Below wr.heap.size wr W := by rw [<- hW]; exact allocBelow _ _
   have oW : Rs W wr.heap.size [.string x0, .int .i64 x1, .string x2] := by rw [<- hW]; exact Rs.new wr #[.string x0, .int .i64 x1, .string x2] _
   have m0 := oW 0 _ rfl
   have m1 := oW 1 _ rfl
   have m2 := oW 2 _ rfl
   have oV := ho.kept (grownOfBelow bW none) (blockCases _ _ fun b c1 c2 => by cases c2)
   have belW : Below q w W := hbel.trans (bW.mono hsz)
   have zW : q <= W.heap.size := Nat.le_trans hsz bW.size
   clear hxe hTe ho hbel oW bW hkl
   by_cases hx : ((x0, x1, x2) : Fl.Ob) = Fl.onil
   ·have HN : Hid (som (fs.take (k + 1)) = T) := hno hx
    have hE := Fl.ef_nil hx
    have O1 : Hid (W.ownsRow q 34 3 (.slice va T.length vc) T.length (Fl.ocells T)) := oV
    clear hy hno oV hx
    go_wp2
    go_roundw
    case rel => exact ⟨k + 1, by omega, by go_num, by rw [HN.out]; exact O1.out, belW, zW⟩
    case measure => first | (simp [intOf]; omega) | simp [intOf]
   ·have HY : Hid (som (fs.take (k + 1)) = T ++ [(x0, x1, x2)]) := hy hx
    have hE := Fl.ef_some hx
    have bN := allocBelow W (.cells #[.string x0, .int .i64 x1, .string x2] 34)
    have o4 := oV.kept (grownOfBelow bN none) (blockCases _ _ fun b c1 c2 => by cases c2)
    have nw := En.newF W (x0, x1, x2)
    have B4 : Below q w (W.alloc (.cells #[.string x0, .int .i64 x1, .string x2] 34)) := belW.trans (bN.mono zW)
    have z4 : q <= (W.alloc (.cells #[.string x0, .int .i64 x1, .string x2] 34)).heap.size := Nat.le_trans zW bN.size
    clear hy hno oV hx bN belW
    go_wp2_with (at_builtin; refine En.wpList_appF rfl (.tmp 13) (.tmp 15) rfl q (.slice va T.length vc) _ rfl o4 _ _ [(x0, x1, x2)] rfl nw (by simp; omega) z4 ?_; intro v5 w5 o5 g5 n5 k5)
    have B5 : Below q w w5 := B4.grown g5 z4 (fun j hj => (o4.lt j hj).1)
    have z5 : q <= w5.heap.size := Nat.le_trans z4 g5.size
    have O5 : Hid (w5.ownsRow q 34 3 v5 (T ++ [(x0, x1, x2)]).length (Fl.ocells (T ++ [(x0, x1, x2)]))) := o5
    clear o4 nw g5 n5 B4 o5
    go_wp2
    go_roundw
    case rel => exact ⟨k + 1, by omega, by go_num, by rw [HY.out]; exact O5.out, B5, z5⟩
    case measure => first | (simp [intOf]; omega) | simp [intOf]
  ·have qk : ¬ (k : Int) < 3 := by omega
   have ek : fs.take k = fs := List.take_of_length_le (by rw [HL.out]; omega)
   rw [ek] at ho
   have HO : Hid (World.ownsRow _ _ _ _ _ _ _) := ho
   clear ho ek HI
   go_wp2
   go_ret
   exact ⟨_, rfl, by rw [HQ.out]; exact HO.out, by rw [HQ.out]; exact hbel⟩
set_option maxRecDepth 20000 in
set_option maxHeartbeats 4000000 in
theorem textOfC (p b : Nat) (st : List Ob) (x : Value) (f0 f2 : ByteArray) (f1 : Int) (w : World) (hz : sf st = 0) (hR : Rf w p [.map (some b), x]) (hp : p < w.heap.size) (hS : Sh w b st) :
  Calls Tryz.prog 91 #[.pointer (some ⟨p, 0, none⟩), .agg #[.string f0, .int .i64 f1, .string f2]] w fun e w' => e = .returned (.string (tx st (f0, f1, f2))) /\ Below w.heap.size w w' := by
 obtain ⟨W1, hW1⟩ : ∃ W, w.alloc (.cells #[.string f0, .int .i64 f1, .string f2] 34) = W := ⟨_, rfl⟩
 have b1 : Below w.heap.size w W1 := by rw [<- hW1]; exact allocBelow _ _
 have r1 : Rs W1 w.heap.size [.string f0, .int .i64 f1, .string f2] := by rw [<- hW1]; exact Rs.new _ #[.string f0, .int .i64 f1, .string f2] _
 have c2 := r1 2 _ rfl
 have hF := findC p b st x 1 f2 W1 hz (hR.below hp b1) (Nat.lt_of_lt_of_le hp b1.size) (hS.below b1)
 have HT : Hid ((fo st 1 f2).2.2 = tx st (f0, f1, f2)) := fo_tx st (f0, f1, f2)
 obtain ⟨O, hO⟩ : ∃ O, fo st 1 f2 = O := ⟨_, rfl⟩
 obtain ⟨o0, o1, o2⟩ := O
 rw [hO] at hF HT
 simp only [] at hF
 generalize (gt st 1 f2).isSome = S at hF
 clear r1 hO hR hS
 go_enter Tryz.func91, Tryz.ntmps91
 go_wp2_with fail
 refine hF.mono ?_; rintro e w2 ⟨rfl, b2⟩
 have B3 : Below w.heap.size w (w2.alloc (.cells #[.string o0, .int .i64 o1, .string o2] 50)) := (b1.trans (b2.mono b1.size)).alloc (Nat.le_trans b1.size b2.size) _
 have m2 := Rs.new w2 #[.string o0, .int .i64 o1, .string o2] 50 2 _ rfl
 clear hF b1 b2 c2 hW1
 go_wp2
 go_ret
 exact ⟨by rw [<- HT.out]; rfl, B3⟩
def tk (st : List Ob) (fs : List Fl.Ob) (k j : Nat) : ByteArray := if j < k then tx st (fs.getD j Fl.onil) else ⟨#[]⟩
def tl (st : List Ob) (fs : List Fl.Ob) (k : Nat) : List Value := [.string (tk st fs k 0), .string (tk st fs k 1), .string (tk st fs k 2)]
theorem tl_at {st : List Ob} {fs : List Fl.Ob} {k : Nat} (h : k < 3) : (tl st fs k)[k]? = some (.string ⟨#[]⟩) := by
 have h : k = 0 \/ k = 1 \/ k = 2 := by omega
 rcases h with rfl | rfl | rfl <;> simp [tl, tk]
theorem tl_set {st : List Ob} {fs : List Fl.Ob} {k : Nat} (h : k < 3) : (tl st fs k).set k (.string (tx st (fs.getD k Fl.onil))) = tl st fs (k + 1) := by
 have h : k = 0 \/ k = 1 \/ k = 2 := by omega
 rcases h with rfl | rfl | rfl <;> simp [tl, tk]
theorem tl_end (st : List Ob) (f0 f2 g0 g2 h0 h2 : ByteArray) (f1 g1 h1 : Int) : tl st [((f0, f1, f2) : Fl.Ob), (g0, g1, g2), (h0, h1, h2)] 3 = [.string (tx st (f0, f1, f2)), .string (tx st (g0, g1, g2)), .string (tx st (h0, h1, h2))] := by simp [tl, tk]
def TM (st : List Ob) (f g h : Fl.Ob) (w : World) (e : Ending) (w' : World) : Prop :=
 (∃ x y z, e = .returned (.tuple #[.agg #[.string x, .string y, .string z], .bool (!bin3 (tx st f) (tx st g) (tx st h))]) /\ (bin3 (tx st f) (tx st g) (tx st h) = false -> x = tx st f /\ y = tx st g /\ z = tx st h)) /\ Below w.heap.size w w'
theorem bin_hit {st : List Ob} {f0 f2 g0 g2 h0 h2 : ByteArray} {f1 g1 h1 : Int} {k : Nat} (hk : k < 3) (h : binB (tx st ([((f0, f1, f2) : Fl.Ob), (g0, g1, g2), (h0, h1, h2)].getD k Fl.onil)).data.toList = true) : bin3 (tx st (f0, f1, f2)) (tx st (g0, g1, g2)) (tx st (h0, h1, h2)) = true := by
 have e : k = 0 \/ k = 1 \/ k = 2 := by omega
 unfold bin3
 rcases e with rfl | rfl | rfl
 ·have h' : binB (tx st (f0, f1, f2)).data.toList = true := h
  rw [h']; rfl
 ·have h' : binB (tx st (g0, g1, g2)).data.toList = true := h
  rw [h']; simp
 ·have h' : binB (tx st (h0, h1, h2)).data.toList = true := h
  rw [h']; simp
theorem bin_none {st : List Ob} {f0 f2 g0 g2 h0 h2 : ByteArray} {f1 g1 h1 : Int} (h : ∀ j, j < 3 -> binB (tx st ([((f0, f1, f2) : Fl.Ob), (g0, g1, g2), (h0, h1, h2)].getD j Fl.onil)).data.toList = false) : bin3 (tx st (f0, f1, f2)) (tx st (g0, g1, g2)) (tx st (h0, h1, h2)) = false := by
 have e0 : binB (tx st (f0, f1, f2)).data.toList = false := h 0 (by omega)
 have e1 : binB (tx st (g0, g1, g2)).data.toList = false := h 1 (by omega)
 have e2 : binB (tx st (h0, h1, h2)).data.toList = false := h 2 (by omega)
 unfold bin3
 rw [e0, e1, e2]; rfl
end Go.Proofs.YtcfnkndbhpdfnaaGreatDoor.Pv
set_option linter.unusedVariables false
namespace Go.Proofs.YtcfnkndbhpdfnaaGreatDoor.Pv
open Go.ChangeShapes Go.WideShapes Go.ChangeAt Go.RowKit
set_option maxRecDepth 20000 in
set_option maxHeartbeats 8000000 in
theorem textsToMergeC (p b : Nat) (st : List Ob) (x : Value) (f0 f2 g0 g2 h0 h2 : ByteArray) (f1 g1 h1 : Int) (w : World) (hz : sf st = 0) (hR : Rf w p [.map (some b), x]) (hp : p < w.heap.size) (hS : Sh w b st) :
  Calls Tryz.prog 115 #[.pointer (some ⟨p, 0, none⟩), .agg #[.string f0, .int .i64 f1, .string f2, .string g0, .int .i64 g1, .string g2, .string h0, .int .i64 h1, .string h2]] w fun e w' => TM st (f0, f1, f2) (g0, g1, g2) (h0, h1, h2) w e w' := by
 have HI : Hid (∀ k, k < 3 -> ∃ x0 x1 x2, [((f0, f1, f2) : Fl.Ob), (g0, g1, g2), (h0, h1, h2)].getD k Fl.onil = (x0, x1, x2) /\ ∀ w, (Instr.index 53 (.agg #[.string f0, .int .i64 f1, .string f2, .string g0, .int .i64 g1, .string g2, .string h0, .int .i64 h1, .string h2]) (.int .i64 (k : Int))).run Tryz.prog w = .ok (.agg #[.string x0, .int .i64 x1, .string x2]) w) := fun k hk => files9 f0 f2 g0 g2 h0 h2 f1 g1 h1 k hk
 have HBN : Hid (∀ k, k < 3 -> binB (tx st ([((f0, f1, f2) : Fl.Ob), (g0, g1, g2), (h0, h1, h2)].getD k Fl.onil)).data.toList = true -> bin3 (tx st (f0, f1, f2)) (tx st (g0, g1, g2)) (tx st (h0, h1, h2)) = true) := fun k hk e => bin_hit hk e
 have HBO : Hid ((∀ j, j < 3 -> binB (tx st ([((f0, f1, f2) : Fl.Ob), (g0, g1, g2), (h0, h1, h2)].getD j Fl.onil)).data.toList = false) -> bin3 (tx st (f0, f1, f2)) (tx st (g0, g1, g2)) (tx st (h0, h1, h2)) = false) := fun e => bin_none e
 have HTE := tl_end st f0 f2 g0 g2 h0 h2 f1 g1 h1
 obtain ⟨fs, hfs⟩ : ∃ fs, [((f0, f1, f2) : Fl.Ob), (g0, g1, g2), (h0, h1, h2)] = fs := ⟨_, rfl⟩
 rw [hfs] at HI HBN HBO HTE
 clear hfs
 have hT := fun W q0 q2 q1 (bW : Below w.heap.size w W) => textOfC p b st x q0 q2 q1 W hz (hR.below hp bW) (Nat.lt_of_lt_of_le hp bW.size) (hS.below bW)
 have HTT : Hid (∀ W q0 q2 q1, Below w.heap.size w W -> Calls Tryz.prog 91 #[.pointer (some ⟨p, 0, none⟩), .agg #[.string q0, .int .i64 q1, .string q2]] W fun e w' => e = .returned (.string (tx st (q0, q1, q2))) /\ Below W.heap.size W w') := hT
 clear hT hR hS
 obtain ⟨q, hq⟩ : ∃ q, w.heap.size = q := ⟨_, rfl⟩
 have HQ : Hid (w.heap.size = q) := hq
 obtain ⟨W0, hW0⟩ : ∃ W, (w.alloc (.cells #[.string f0, .int .i64 f1, .string f2, .string g0, .int .i64 g1, .string g2, .string h0, .int .i64 h1, .string h2] 53)).alloc (.cells #[.string ⟨#[]⟩, .string ⟨#[]⟩, .string ⟨#[]⟩] 155) = W := ⟨_, rfl⟩
 have za : (w.alloc (.cells #[.string f0, .int .i64 f1, .string f2, .string g0, .int .i64 g1, .string g2, .string h0, .int .i64 h1, .string h2] 53)).heap.size = q + 1 := by rw [<- hq]; simp
 have zb : W0.heap.size = q + 2 := by rw [<- hW0, <- hq]; simp
 have b0 : Below q w W0 := by rw [<- hW0, <- hq]; exact ((Below.refl _ _).alloc (Nat.le_refl _) _).alloc (by simp) _
 have ra : Rf W0 q [.string f0, .int .i64 f1, .string f2, .string g0, .int .i64 g1, .string g2, .string h0, .int .i64 h1, .string h2] := by rw [<- hW0, <- hq]; exact (Rf.new w #[.string f0, .int .i64 f1, .string f2, .string g0, .int .i64 g1, .string g2, .string h0, .int .i64 h1, .string h2] _).below (by simp) (allocBelow _ _)
 have rb : Rf W0 (q + 1) [.string ⟨#[]⟩, .string ⟨#[]⟩, .string ⟨#[]⟩] := by rw [<- hW0, <- za]; exact Rf.new _ #[.string ⟨#[]⟩, .string ⟨#[]⟩, .string ⟨#[]⟩] _
 obtain ⟨W1, hW1⟩ : ∃ W, W0.alloc (.cells #[.string ⟨#[]⟩, .string ⟨#[]⟩, .string ⟨#[]⟩] 155) = W := ⟨_, rfl⟩
 have bN : Below W0.heap.size W0 W1 := by rw [<- hW1]; exact allocBelow _ _
 have b1 : Below q w W1 := b0.trans (bN.mono (by omega))
 have ra1 := ra.below (by omega) bN
 have rb1 := rb.below (by omega) bN
 have rc1 : Rf W1 (q + 2) [.string ⟨#[]⟩, .string ⟨#[]⟩, .string ⟨#[]⟩] := by rw [<- hW1, <- zb]; exact Rf.new _ #[.string ⟨#[]⟩, .string ⟨#[]⟩, .string ⟨#[]⟩] _
 have z1 : q + 3 <= W1.heap.size := by rw [<- hW1]; simp; omega
 have rt : Rf W1 (q + 2) (tl st fs 0) := rc1
 have c0 := ra1.at_ 0 _ rfl
 have c1 := ra1.at_ 1 _ rfl
 have c2 := ra1.at_ 2 _ rfl
 have c3 := ra1.at_ 3 _ rfl
 have c4 := ra1.at_ 4 _ rfl
 have c5 := ra1.at_ 5 _ rfl
 have c6 := ra1.at_ 6 _ rfl
 have c7 := ra1.at_ 7 _ rfl
 have c8 := ra1.at_ 8 _ rfl
 clear za b0 ra rb bN ra1 rc1
 go_enter Tryz.func115, Tryz.ntmps115
 go_wp2
 clear hq hW0 hW1 zb
 go_loopw [7, 8, 10] (fun _s _p i wr => ∃ k : Nat, k <= 3 /\ i = .int .i64 k /\ Rf wr (q + 2) (tl st fs k) /\ Rf wr (q + 1) [.string ⟨#[]⟩, .string ⟨#[]⟩, .string ⟨#[]⟩] /\ Below q w wr /\ q + 3 <= wr.heap.size /\ Hid (∀ j, j < k -> binB (tx st (fs.getD j Fl.onil)).data.toList = false)) (fun _ _ i _ => 3 - (intOf i).toNat)
 case atStart => exact ⟨0, Nat.zero_le _, rfl, rt, rb1, b1, z1, fun j hj => absurd hj (by omega)⟩
 case round =>
  obtain ⟨k, hk, rfl, rT, rR, hbel, hsz, hN⟩ := hrel
  clear b1 z1 rt rb1 c0 c1 c2 c3 c4 c5 c6 c7 c8
  by_cases hlt : k < 3
  ·have qk : (k : Int) < 3 := by omega
   obtain ⟨x0, x1, x2, hxe, hix⟩ := HI.out k hlt
   have hat := rT.at_ k _ (tl_at hlt)
   have hfz := rT.fz k
   have hset := tl_set (st := st) (fs := fs) hlt
   have hbn := HBN.out k hlt
   rw [hxe] at hset hbn
   obtain ⟨W, hW⟩ : ∃ W, wr.alloc (.cells #[.string x0, .int .i64 x1, .string x2] 34) = W := ⟨_, rfl⟩
   have bW : Below wr.heap.size wr W := by rw [<- hW]; exact allocBelow _ _
   have oW : Rs W wr.heap.size [.string x0, .int .i64 x1, .string x2] := by rw [<- hW]; exact Rs.new wr #[.string x0, .int .i64 x1, .string x2] _
   have m0 := oW 0 _ rfl
   have m1 := oW 1 _ rfl
   have m2 := oW 2 _ rfl
   have belW : Below q w W := hbel.trans (bW.mono (by omega))
   have zW : q + 3 <= W.heap.size := Nat.le_trans hsz bW.size
   have hTx := HTT.out W x0 x2 x1 (by rw [HQ.out]; exact belW)
   have HNN : Hid (binB (tx st (x0, x1, x2)).data.toList = false -> ∀ j, j < k + 1 -> binB (tx st (fs.getD j Fl.onil)).data.toList = false) := fun e j hj => by
    by_cases t : j = k
    ·rw [t, hxe]; exact e
    ·exact hN.out j (by omega)
   have hIB := fun W => implIsBinary (tx st (x0, x1, x2)) W
   obtain ⟨X, hX⟩ : ∃ X, tx st (x0, x1, x2) = X := ⟨_, rfl⟩
   rw [hX] at hTx hset hbn HNN hIB
   have hst : (tl st fs k).length = 3 := rfl
   have rT2 := rT.below (by omega) bW
   have rR2 := rR.below (by omega) bW
   clear hxe hX oW bW rT rR hbel hN hat hfz HI HBN
   go_wp2_with fail
   refine hTx.mono ?_; rintro e w3 ⟨rfl, b3⟩
   clear hW m0 m1 m2
   have rT3 := rT2.below (by omega) b3
   have rR3 := rR2.below (by omega) b3
   have bel3 : Below q w w3 := belW.trans (b3.mono (by omega))
   have z3 : q + 3 <= w3.heap.size := Nat.le_trans zW b3.size
   have hat := rT3.at_ k _ (tl_at hlt)
   have hfz := rT3.fz k
   have rT4 := rT3.set (o := k) (by rw [hst]; exact hlt) (.string X)
   rw [hset] at rT4
   have rR4 : Rf (w3.setCell ⟨q + 2, k, none⟩ (.string X)) (q + 1) [.string ⟨#[]⟩, .string ⟨#[]⟩, .string ⟨#[]⟩] := rfKeep rR3 (grownSet w3 (q + 2) k (.string X)) (by simp) (by omega)
   have bel4 : Below q w (w3.setCell ⟨q + 2, k, none⟩ (.string X)) := bel3.setCell (p := ⟨q + 2, k, none⟩) (by show q <= q + 2; omega) _
   have z4 : q + 3 <= (w3.setCell ⟨q + 2, k, none⟩ (.string X)).heap.size := by rw [World.size_setCell]; exact z3
   have hld : (w3.setCell ⟨q + 2, k, none⟩ (.string X)).cell? ⟨q + 2, k, none⟩ = some (.string X) := by
    have := rT4.at_ k (.string X) (by rw [<- hset, List.getElem?_set_self (by rw [hst]; exact hlt)])
    exact this
   clear hTx b3 rT2 rR2 belW zW rT3 rR3 bel3 z3 hset hst
   obtain ⟨U, hU⟩ : ∃ U, w3.setCell ⟨q + 2, k, none⟩ (.string X) = U := ⟨_, rfl⟩
   rw [hU] at rT4 rR4 bel4 z4 hld
   go_wp2_with fail
   cases hbx : binB X.data.toList with
   | true =>
    rw [hbx] at hIB
    refine (hIB _).mono ?_; rintro e U ⟨rfl, rfl⟩
    clear hU
    have HB3 : Hid (bin3 (tx st (f0, f1, f2)) (tx st (g0, g1, g2)) (tx st (h0, h1, h2)) = true) := hbn hbx
    unfold tl at rT4
    obtain ⟨t0, ht0⟩ : ∃ t, tk st fs (k + 1) 0 = t := ⟨_, rfl⟩
    obtain ⟨t1, ht1⟩ : ∃ t, tk st fs (k + 1) 1 = t := ⟨_, rfl⟩
    obtain ⟨t2, ht2⟩ : ∃ t, tk st fs (k + 1) 2 = t := ⟨_, rfl⟩
    rw [ht0, ht1, ht2] at rT4
    clear ht0 ht1 ht2 hbn hbx HNN hIB hld HBO HTE HTT
    have y0 := rT4.at_ 0 _ rfl
    have d0 := rR4.at_ 0 _ rfl
    have k0 := rR4.fz 0
    have y1 := rT4.at_ 1 _ rfl
    have d1 := rR4.at_ 1 _ rfl
    have k1 := rR4.fz 1
    have y2 := rT4.at_ 2 _ rfl
    have d2 := rR4.at_ 2 _ rfl
    have k2 := rR4.fz 2
    have RV := (((rR4.set (o := 0) (by simp) (.string t0)).set (o := 1) (by simp) (.string t1)).set (o := 2) (by simp) (.string t2))
    have BV := (((bel4.setCell (p := ⟨q + 1, 0, none⟩) (by show q <= q + 1; omega) (.string t0)).setCell (p := ⟨q + 1, 1, none⟩) (by show q <= q + 1; omega) (.string t1)).setCell (p := ⟨q + 1, 2, none⟩) (by show q <= q + 1; omega) (.string t2))
    obtain ⟨V, hV⟩ : ∃ V, (((U.setCell ⟨q + 1, 0, none⟩ (.string t0)).setCell ⟨q + 1, 1, none⟩ (.string t1)).setCell ⟨q + 1, 2, none⟩ (.string t2)) = V := ⟨_, rfl⟩
    rw [hV] at RV BV
    have HVV : Hid (_ = V) := hV
    have v0 := RV.at_ 0 _ rfl
    have v1 := RV.at_ 1 _ rfl
    have v2 := RV.at_ 2 _ rfl
    clear hV RV rT4 rR4 bel4
    go_wp2
    rw [HVV.out]
    refine bodyPost_ret (v := .tuple #[.agg #[.string t0, .string t1, .string t2], .bool false]) (by simp [results, Tryz.results115, go_sem, v0, v1, v2]) rfl ?_
    exact ⟨⟨t0, t1, t2, by rw [HB3.out]; rfl, fun c => by rw [HB3.out] at c; cases c⟩, by rw [HQ.out]; exact BV⟩
   | false =>
    rw [hbx] at hIB
    have HG := HNN.out hbx
    refine (hIB _).mono ?_; rintro e U ⟨rfl, rfl⟩
    clear hU
    have HG2 : Hid (∀ j, j < k + 1 -> binB (tx st (fs.getD j Fl.onil)).data.toList = false) := HG
    clear hbn hbx HNN hIB hld HG HBO HTE HTT
    go_wp2
    go_roundw
    case rel => exact ⟨k + 1, by omega, by go_num, rT4, rR4, bel4, z4, HG2⟩
    case measure => first | (simp [intOf]; omega) | simp [intOf]
  ·have qk : ¬ (k : Int) < 3 := by omega
   have ek : k = 3 := by omega
   subst ek
   have HB3 : Hid (bin3 (tx st (f0, f1, f2)) (tx st (g0, g1, g2)) (tx st (h0, h1, h2)) = false) := HBO.out hN.out
   rw [HTE] at rT
   obtain ⟨t0, ht0⟩ : ∃ t, tx st (f0, f1, f2) = t := ⟨_, rfl⟩
   obtain ⟨t1, ht1⟩ : ∃ t, tx st (g0, g1, g2) = t := ⟨_, rfl⟩
   obtain ⟨t2, ht2⟩ : ∃ t, tx st (h0, h1, h2) = t := ⟨_, rfl⟩
   have HX3 : Hid (tx st (f0, f1, f2) = t0 /\ tx st (g0, g1, g2) = t1 /\ tx st (h0, h1, h2) = t2) := ⟨ht0, ht1, ht2⟩
   rw [ht0, ht1, ht2] at rT
   clear ht0 ht1 ht2 HBO HTE HTT HI HBN hN
   have y0 := rT.at_ 0 _ rfl
   have d0 := rR.at_ 0 _ rfl
   have k0 := rR.fz 0
   have y1 := rT.at_ 1 _ rfl
   have d1 := rR.at_ 1 _ rfl
   have k1 := rR.fz 1
   have y2 := rT.at_ 2 _ rfl
   have d2 := rR.at_ 2 _ rfl
   have k2 := rR.fz 2
   have RV := (((rR.set (o := 0) (by simp) (.string t0)).set (o := 1) (by simp) (.string t1)).set (o := 2) (by simp) (.string t2))
   have BV := (((hbel.setCell (p := ⟨q + 1, 0, none⟩) (by show q <= q + 1; omega) (.string t0)).setCell (p := ⟨q + 1, 1, none⟩) (by show q <= q + 1; omega) (.string t1)).setCell (p := ⟨q + 1, 2, none⟩) (by show q <= q + 1; omega) (.string t2))
   obtain ⟨V, hV⟩ : ∃ V, (((wr.setCell ⟨q + 1, 0, none⟩ (.string t0)).setCell ⟨q + 1, 1, none⟩ (.string t1)).setCell ⟨q + 1, 2, none⟩ (.string t2)) = V := ⟨_, rfl⟩
   rw [hV] at RV BV
   have HVV : Hid (_ = V) := hV
   have v0 := RV.at_ 0 _ rfl
   have v1 := RV.at_ 1 _ rfl
   have v2 := RV.at_ 2 _ rfl
   clear hV RV rT rR hbel
   go_wp2
   rw [HVV.out]
   refine bodyPost_ret (v := .tuple #[.agg #[.string t0, .string t1, .string t2], .bool true]) (by simp [results, Tryz.results115, go_sem, v0, v1, v2]) rfl ?_
   exact ⟨⟨t0, t1, t2, by rw [HB3.out]; rfl, fun _ => ⟨HX3.out.1.symm, HX3.out.2.1.symm, HX3.out.2.2.symm⟩⟩, by rw [HQ.out]; exact BV⟩
end Go.Proofs.YtcfnkndbhpdfnaaGreatDoor.Pv
