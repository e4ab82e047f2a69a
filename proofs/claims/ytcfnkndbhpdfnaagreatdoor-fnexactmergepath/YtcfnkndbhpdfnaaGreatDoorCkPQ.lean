/- A chunk more in a row of chunks that is owned; and the contracts of what makes a chunk. No statement is proved here. -/
import Derived.Test.YtcfnkndbhpdfnaaGreatDoorWvCQ
import Derived.Test.YtcfnkndbhpdfnaaGreatDoorFmCQ
import Derived.Deep.RegionHeld
namespace Go.Proofs.YtcfnkndbhpdfnaaGreatDoor
open Go.ChangeShapes Go.WideShapes Go.ChangeAt Go.RowKit
structure C3 (base : Nat) (w : World) (C : Ck) (v1 v2 v3 : Value) : Prop where
 o1 : w.ownsRow base 9 1 v1 C.2.1.length (C.2.1.map Value.string)
 o2 : w.ownsRow base 9 1 v2 C.2.2.1.length (C.2.2.1.map Value.string)
 o3 : w.ownsRow base 9 1 v3 C.2.2.2.length (C.2.2.2.map Value.string)
 d12 : ∀ b, v1.ownBlock = some b -> v2.ownBlock = some b -> False
 d13 : ∀ b, v1.ownBlock = some b -> v3.ownBlock = some b -> False
 d23 : ∀ b, v2.ownBlock = some b -> v3.ownBlock = some b -> False
theorem C3.fr {lo hi base : Nat} {w w' : World} {C : Ck} {v1 v2 v3 : Value} (h : C3 base w C v1 v2 v3) (hF : Fr lo hi w w') (b1 : ∀ j, v1.ownBlock = some j -> j < lo \/ hi <= j) (b2 : ∀ j, v2.ownBlock = some j -> j < lo \/ hi <= j) (b3 : ∀ j, v3.ownBlock = some j -> j < lo \/ hi <= j) : C3 base w' C v1 v2 v3 :=
 ⟨hF.own h.o1 b1, hF.own h.o2 b2, hF.own h.o3 b3, h.d12, h.d13, h.d23⟩
theorem C3.below {base : Nat} {w w' : World} {C : Ck} {v1 v2 v3 : Value} (h : C3 base w C v1 v2 v3) (hb : Below w.heap.size w w') : C3 base w' C v1 v2 v3 :=
 h.fr (Fr.ofBelow (lo := 0) (hi := 0) hb) (fun _ _ => .inr (Nat.zero_le _)) (fun _ _ => .inr (Nat.zero_le _)) (fun _ _ => .inr (Nat.zero_le _))
theorem C3.mono {base b : Nat} {w : World} {C : Ck} {v1 v2 v3 : Value} (h : C3 base w C v1 v2 v3) (hb : b <= base) : C3 b w C v1 v2 v3 := ⟨ownMono h.o1 hb, ownMono h.o2 hb, ownMono h.o3 hb, h.d12, h.d13, h.d23⟩
theorem getC_app {L : List Ck} {C : Ck} {k : Nat} (h : k < L.length) : (L ++ [C]).getD k cnil = L.getD k cnil := by rw [List.getD, List.getD, List.getElem?_append_left h]
theorem getC_last (L : List Ck) (C : Ck) : (L ++ [C]).getD L.length cnil = C := by simp [List.getD]
theorem kcell_snoc (L : List Ck) (C : Ck) (sl : Nat -> Value) (v1 v2 v3 : Value) : rowK (kcell L sl) (L.length * 4) ++ [.int .i64 C.1, v1, v2, v3] = rowK (kcell (L ++ [C]) (sl3 sl L.length v1 v2 v3)) (L.length * 4 + 4) := by
 refine rowK_app _ _ _ _ (fun j hj => ?_) (fun j hj => ?_)
 ·unfold kcell
  by_cases hm : j % 4 = 0
  ·rw [if_pos hm, if_pos hm, getC_app (by omega)]
  ·rw [if_neg hm, if_neg hm, sl3_old _ _ _ _ _ _ (by omega)]
 ·have h4 : j = 0 \/ j = 1 \/ j = 2 \/ j = 3 := by simp at hj; omega
  rcases h4 with rfl | rfl | rfl | rfl
  ·rw [Nat.add_zero, kcell0, getC_last]; rfl
  ·rw [kcell1, sl3_0]; rfl
  ·rw [kcell2, sl3_1]; rfl
  ·rw [kcell3, sl3_2]; rfl
theorem KO.push {base M : Nat} {wx w6 : World} {o : Obj} {v v' v1 v2 v3 : Value} {L : List Ck} {C : Ck} {sl : Nat -> Value} (hh : KO base wx v L sl) (h3 : C3 base wx C v1 v2 v3)
  (hv : ∀ b, v.ownBlock = some b -> b < M) (hs : ∀ k, k < L.length * 3 -> ∀ b, (sl k).ownBlock = some b -> b < M) (a1 : ∀ b, v1.ownBlock = some b -> M <= b) (a2 : ∀ b, v2.ownBlock = some b -> M <= b) (a3 : ∀ b, v3.ownBlock = some b -> M <= b)
  (p6 : w6.ownsRow base 162 4 v' (L.length + 1) (rowK (kcell L sl) (L.length * 4) ++ [.int .i64 C.1, v1, v2, v3])) (g6 : (wx.alloc o).grownBy w6 v.ownBlock)
  (k6 : v'.ownBlock = v.ownBlock \/ v'.ownBlock = some (wx.alloc o).heap.size) :
  KO base w6 v' (L ++ [C]) (sl3 sl L.length v1 v2 v3) := by
 have hsz : (wx.alloc o).heap.size = wx.heap.size + 1 := by simp
 rw [hsz] at k6
 have hl : (L ++ [C]).length = L.length + 1 := by simp
 have fin : ∀ {t : Value} {n : Nat} {xs : List Value}, wx.ownsRow base 9 1 t n xs -> (∀ b, v.ownBlock = some b -> t.ownBlock = some b -> False) -> (w6.ownsRow base 9 1 t n xs /\ ∀ b, v'.ownBlock = some b -> t.ownBlock = some b -> False) := by
  intro t n xs ho ha
  refine ⟨(ho.alloc o).kept g6 (blockCases _ _ fun b c1 c2 => ha b c2 c1), fun b c1 c2 => ?_⟩
  rcases k6 with k | k
  ·exact ha b (k ▸ c1) c2
  ·rw [k] at c1
   have := (ho.lt b c2).2
   simp only [Option.some.injEq] at c1
   omega
 have A1 := fin h3.o1 (fun b c1 c2 => by have := hv b c1; have := a1 b c2; omega)
 have A2 := fin h3.o2 (fun b c1 c2 => by have := hv b c1; have := a2 b c2; omega)
 have A3 := fin h3.o3 (fun b c1 c2 => by have := hv b c1; have := a3 b c2; omega)
 refine ⟨?_, fun j hj => ?_, fun i j hij hj b c1 c2 => ?_, fun j hj b c1 c2 => ?_⟩
 ·rw [kcell_snoc] at p6
  rw [hl, show (L.length + 1) * 4 = L.length * 4 + 4 by omega]
  exact p6
 ·rw [hl] at hj
  rcases threeK hj with h' | rfl | rfl | rfl
  ·rw [sl3_old _ _ _ _ _ _ h']
   have e : lns (L ++ [C]) j = lns L j := by unfold lns; rw [getC_app (by omega)]
   rw [e]; exact (fin (hh.each j h') (hh.off j h')).1
  ·rw [sl3_0, lns0, getC_last]; exact A1.1
  ·rw [sl3_1, lns1, getC_last]; exact A2.1
  ·rw [sl3_2, lns2, getC_last]; exact A3.1
 ·rw [hl] at hj
  rcases threeK (show i < (L.length + 1) * 3 by omega) with hi | rfl | rfl | rfl
  ·rw [sl3_old _ _ _ _ _ _ hi] at c1
   rcases threeK hj with h' | rfl | rfl | rfl
   ·rw [sl3_old _ _ _ _ _ _ h'] at c2; exact hh.apart i j hij h' b c1 c2
   ·rw [sl3_0] at c2; have := hs i hi b c1; have := a1 b c2; omega
   ·rw [sl3_1] at c2; have := hs i hi b c1; have := a2 b c2; omega
   ·rw [sl3_2] at c2; have := hs i hi b c1; have := a3 b c2; omega
  ·rw [sl3_0] at c1
   rcases threeK hj with h' | h' | rfl | rfl
   ·omega
   ·omega
   ·rw [sl3_1] at c2; exact h3.d12 b c1 c2
   ·rw [sl3_2] at c2; exact h3.d13 b c1 c2
  ·rw [sl3_1] at c1
   rcases threeK hj with h' | h' | h' | rfl
   ·omega
   ·omega
   ·omega
   ·rw [sl3_2] at c2; exact h3.d23 b c1 c2
  ·omega
 ·rw [hl] at hj
  rcases threeK hj with h' | rfl | rfl | rfl
  ·rw [sl3_old _ _ _ _ _ _ h'] at c2; exact (fin (hh.each j h') (hh.off j h')).2 b c1 c2
  ·rw [sl3_0] at c2; exact A1.2 b c1 c2
  ·rw [sl3_1] at c2; exact A2.2 b c1 c2
  ·rw [sl3_2] at c2; exact A3.2 b c1 c2
def NP (x1 x2 x3 : List ByteArray) (w : World) (e : Ending) (w' : World) : Prop := ∃ v1 v2 v3, e = .returned (.agg #[.int .i64 (kd x1 x2 x3), v1, v2, v3]) /\ C3 w.heap.size w' (kd x1 x2 x3, x1, x2, x3) v1 v2 v3 /\ Below w.heap.size w w'
theorem fourKeep {u : World} {p b o : Nat} {v0 v1 v2 v3 x : Value} (hc : u.cell? ⟨b, o, none⟩ = some x) (h : b < p) : ((((u.setCell ⟨p, 0, none⟩ v0).setCell ⟨p, 1, none⟩ v1).setCell ⟨p, 2, none⟩ v2).setCell ⟨p, 3, none⟩ v3).cell? ⟨b, o, none⟩ = some x := by
 have F := fourSets u p 0 v0 v1 v2 v3
 simp only [Nat.zero_add] at F
 exact F.cell hc (.inl h)
theorem goB {a u w' : World} (b : Below u.heap.size u w') (h : Below a.heap.size a u) : Below a.heap.size a w' := h.trans (b.mono h.size)
theorem Rf.drw {w : World} {b : Nat} {vs : List Value} (h : Rf w b vs) : Rf w.drew b vs := ⟨h.at_, h.fz⟩
theorem Rf.lt {w : World} {b : Nat} {v : Value} {vs : List Value} (h : Rf w b (v :: vs)) : b < w.heap.size := cellLt (h.at_ 0 _ rfl)
def CR (W : World) (x1 x2 x3 : List ByteArray) (s : Value) (wx : World) : Prop := ∃ (p : Nat) (v1 v2 v3 : Value), s = .pointer (some ⟨p, 0, none⟩) /\ Rf wx p [.int .i64 0, v1, v2, v3] /\ C3 W.heap.size wx (0, x1, x2, x3) v1 v2 v3 /\ ((∀ j, v1.ownBlock = some j -> j ≠ p) /\ (∀ j, v2.ownBlock = some j -> j ≠ p) /\ ∀ j, v3.ownBlock = some j -> j ≠ p) /\ Below W.heap.size W wx /\ W.heap.size <= p
theorem CR.sets {W w4 : World} {p : Nat} {v1 v2 v3 : Value} {x1 x2 x3 : List ByteArray} (T : Rf w4 p [.int .i64 0, .slice none 0 0, .slice none 0 0, .slice none 0 0]) (C : C3 W.heap.size w4 (0, x1, x2, x3) v1 v2 v3)
  (n1 : ∀ j, v1.ownBlock = some j -> j ≠ p) (n2 : ∀ j, v2.ownBlock = some j -> j ≠ p) (n3 : ∀ j, v3.ownBlock = some j -> j ≠ p) (B : Below W.heap.size W w4) (hp : W.heap.size <= p) :
  CR W x1 x2 x3 (.pointer (some ⟨p, 0, none⟩)) ((((w4.setCell ⟨p, 0, none⟩ (.int .i64 0)).setCell ⟨p, 1, none⟩ v1).setCell ⟨p, 2, none⟩ v2).setCell ⟨p, 3, none⟩ v3) := by
 have F := fourSets w4 p 0 (.int .i64 0) v1 v2 v3
 simp only [Nat.zero_add] at F
 refine ⟨p, v1, v2, v3, rfl, ?_, C.fr F (fun j hj => by have := n1 j hj; omega) (fun j hj => by have := n2 j hj; omega) (fun j hj => by have := n3 j hj; omega), ⟨n1, n2, n3⟩, F.below B hp B.size, hp⟩
 exact (((T.set (o := 0) (by simp) _).set (o := 1) (by simp) _).set (o := 2) (by simp) _).set (o := 3) (by simp) _
theorem CR.new {W w4 : World} {v1 v2 v3 : Value} {x1 x2 x3 : List ByteArray} (C : C3 W.heap.size w4 (0, x1, x2, x3) v1 v2 v3) (B : Below W.heap.size W w4) (t : TypeId) :
  CR W x1 x2 x3 (.pointer (some ⟨w4.heap.size, 0, none⟩)) (w4.alloc (.cells #[.int .i64 0, v1, v2, v3] t)) :=
 ⟨w4.heap.size, v1, v2, v3, rfl, Rf.new _ _ _, C.below (allocBelow _ _), ⟨fun j hj e => by have := (C.o1.lt j hj).2; omega, fun j hj e => by have := (C.o2.lt j hj).2; omega, fun j hj e => by have := (C.o3.lt j hj).2; omega⟩, B.trans ((allocBelow _ _).mono B.size), B.size⟩
set_option maxRecDepth 20000 in
set_option maxHeartbeats 2000000 in
theorem newChunk (a1 a2 a3 : Option Addr) (c1 c2 c3 : Nat) (x1 x2 x3 : List ByteArray) (w : World) (h1 : SS w a1 x1) (h2 : SS w a2 x2) (h3 : SS w a3 x3) (n1 : x1.length <= 1048576) (n2 : x2.length <= 1048576) (n3 : x3.length <= 1048576)
  (y1 : ∀ k, k < x1.length -> (x1.getD k ByteArray.empty).size <= 1048576) (y2 : ∀ k, k < x2.length -> (x2.getD k ByteArray.empty).size <= 1048576) (y3 : ∀ k, k < x3.length -> (x3.getD k ByteArray.empty).size <= 1048576) :
  Calls Tryz.prog 190 #[.agg #[.slice a1 x1.length c1, .slice a2 x2.length c2, .slice a3 x3.length c3]] w fun e w' => NP x1 x2 x3 w e w' := by
 obtain ⟨W0, hW0⟩ : ∃ W, w.alloc (.cells #[.slice a1 x1.length c1, .slice a2 x2.length c2, .slice a3 x3.length c3] 194) = W := ⟨_, rfl⟩
 have f0 : Rf W0 w.heap.size [.slice a1 x1.length c1, .slice a2 x2.length c2, .slice a3 x3.length c3] := by rw [<- hW0]; exact Rf.new _ _ _
 have B0 : Below w.heap.size w W0 := by rw [<- hW0]; exact allocBelow _ _
 have z0 : W0.heap.size = w.heap.size + 1 := by rw [<- hW0]; simp
 obtain ⟨W1, hW1⟩ : ∃ W, W0.alloc (.cells #[.int .i64 0, .slice none 0 0, .slice none 0 0, .slice none 0 0] 162) = W := ⟨_, rfl⟩
 have f1 : Rf W1 (w.heap.size + 1) [.int .i64 0, .slice none 0 0, .slice none 0 0, .slice none 0 0] := by rw [<- hW1, <- z0]; exact Rf.new _ _ _
 have b1 : Below W0.heap.size W0 W1 := by rw [<- hW1]; exact allocBelow _ _
 have z1 : W1.heap.size = w.heap.size + 1 + 1 := by rw [<- hW1]; simp [z0]
 replace f0 := f0.below (by omega) b1
 have B1 : Below w.heap.size w W1 := B0.trans (b1.mono (by omega))
 have p0 := f0.at_ 0 _ rfl
 have p1 := f0.at_ 1 _ rfl
 have p2 := f0.at_ 2 _ rfl
 have S1 := h1.below B1
 have S2 := h2.below B1
 have S3 := h3.below B1
 clear B0 b1 h1 h2 h3
 go_enter Tryz.func190, Tryz.ntmps190
 go_wp2
 have hlt0 : w.heap.size < W1.heap.size := by omega
 clear hW0 hW1 z0 z1
 go_cut [3] from 4 to 13 (fun s wx => CR W1 x1 x2 x3 s wx)
 case first =>
  go_region_held (fun w' => w'.cell? ⟨w.heap.size, 0, none⟩ = some (.slice a1 x1.length c1) /\ w'.cell? ⟨w.heap.size, 1, none⟩ = some (.slice a2 x2.length c2) /\ w'.cell? ⟨w.heap.size, 2, none⟩ = some (.slice a3 x3.length c3)) (first | with_reducible exact ⟨k0, k1, k2⟩ | exact ⟨p0, p1, p2⟩ | (go_keep; done) | (have q2 := X2.size; have q3 := X3.size; with_reducible refine ⟨fourKeep k0 ?_, fourKeep k1 ?_, fourKeep k2 ?_⟩ <;> omega))
   (first
    | (go_at_call 199; have gd := o2; clear gd; refine (copyNew x3 a3 c3 _ (S3.below (by first | exact X3 | exact X3.alloc X3.size _)) y3 n3).mono ?_; rintro e w4 ⟨v3, rfl, o3, b4⟩; obtain ⟨va3, vc3, ev3⟩ := shapeS o3; subst ev3; have X4 : Below W1.heap.size W1 w4 := goB b4 (by first | exact X3 | exact X3.alloc X3.size _); have Y4 : Below w3.heap.size w3 w4 := goB b4 (by first | exact Below.refl _ _ | exact allocBelow _ _); have k0 := Fr.zcell Y4 k0; have k1 := Fr.zcell Y4 k1; have k2 := Fr.zcell Y4 k2; (first | (have T4 := Rf.below T3 T3.lt Y4; have t0 := T4.at_ 0 _ rfl; have t1 := T4.at_ 1 _ rfl; have t2 := T4.at_ 2 _ rfl; have t3 := T4.at_ 3 _ rfl; have g0 := T4.fz 0; have g1 := T4.fz 1; have g2 := T4.fz 2; have g3 := T4.fz 3) | (have T4 := Rf.below (Rf.new w3 #[.int .i64 0, .slice none 0 0, .slice none 0 0, .slice none 0 0] 162) (by simp) b4; have t0 := T4.at_ 0 _ rfl; have t1 := T4.at_ 1 _ rfl; have t2 := T4.at_ 2 _ rfl; have t3 := T4.at_ 3 _ rfl; have g0 := T4.fz 0; have g1 := T4.fz 1; have g2 := T4.fz 2; have g3 := T4.fz 3) | skip))
    | (go_at_call 199; have gd := o1; clear gd; refine (copyNew x2 a2 c2 _ (S2.below (by first | exact X2 | exact X2.alloc X2.size _)) y2 n2).mono ?_; rintro e w3 ⟨v2, rfl, o2, b3⟩; obtain ⟨va2, vc2, ev2⟩ := shapeS o2; subst ev2; have X3 : Below W1.heap.size W1 w3 := goB b3 (by first | exact X2 | exact X2.alloc X2.size _); have Y3 : Below w2.heap.size w2 w3 := goB b3 (by first | exact Below.refl _ _ | exact allocBelow _ _); have k0 := Fr.zcell Y3 k0; have k1 := Fr.zcell Y3 k1; have k2 := Fr.zcell Y3 k2; (first | have T3 := Rf.below T2 T2.lt Y3 | have T3 := Rf.below (Rf.new w2 #[.int .i64 0, .slice none 0 0, .slice none 0 0, .slice none 0 0] 162) (by simp) b3 | skip))
    | (go_at_call 199; refine (copyNew x1 a1 c1 _ (S1.below (by first | exact below_drew (Below.refl _ _) | exact below_drew (allocBelow _ _))) y1 n1).mono ?_; rintro e w2 ⟨v1, rfl, o1, b2⟩; obtain ⟨va1, vc1, ev1⟩ := shapeS o1; subst ev1; have X2 : Below W1.heap.size W1 w2 := goB b2 (by first | exact below_drew (Below.refl _ _) | exact below_drew (allocBelow _ _)); have k0 := Fr.zcell X2 p0; have k1 := Fr.zcell X2 p1; have k2 := Fr.zcell X2 p2; (first | have T2 := Rf.below (Rf.drw (Rf.new W1 #[.int .i64 0, .slice none 0 0, .slice none 0 0, .slice none 0 0] 162)) (by show W1.heap.size < (W1.alloc _).heap.size; simp) b2 | skip)))
  all_goals
   have O1 := (Fr.ofBelow (lo := 0) (hi := 0) (goB Y4 Y3)).own o1 (fun _ _ => .inr (Nat.zero_le _))
   have O2 := (Fr.ofBelow (lo := 0) (hi := 0) Y4).own o2 (fun _ _ => .inr (Nat.zero_le _))
   have l1 : ∀ j, (Value.slice va1 x1.length vc1).ownBlock = some j -> j < w2.heap.size := fun j hj => (o1.lt j hj).2
   have l2 : ∀ j, (Value.slice va2 x2.length vc2).ownBlock = some j -> w2.heap.size <= j /\ j < w3.heap.size := fun j hj => ⟨Nat.le_trans (by first | exact Nat.le_refl _ | simp) (o2.lt j hj).1, (o2.lt j hj).2⟩
   have l3 : ∀ j, (Value.slice va3 x3.length vc3).ownBlock = some j -> w3.heap.size <= j := fun j hj => Nat.le_trans (by first | exact Nat.le_refl _ | simp) (o3.lt j hj).1
   have s2 := X2.size
   have s3 := Y3.size
   have s4 := Y4.size
   have C : C3 W1.heap.size w4 (0, x1, x2, x3) (Value.slice va1 x1.length vc1) (Value.slice va2 x2.length vc2) (Value.slice va3 x3.length vc3) := ⟨ownMono O1 (by first | exact Nat.le_refl _ | (show W1.heap.size <= (W1.alloc _).heap.size; simp)), ownMono O2 (by first | exact s2 | (simp; omega)), ownMono o3 (by first | omega | (simp; omega)), fun b c1 c2 => by have := l1 b c1; have := l2 b c2; omega, fun b c1 c2 => by have := l1 b c1; have := l3 b c2; omega, fun b c1 c2 => by have := l2 b c1; have := l3 b c2; omega⟩
   clear k0 k1 k2
  ·clear o1 o2 o3 O1 O2 b2 b3 b4 l1 l2 l3
   go_wp2_with fail
   go_meet
   exact CR.new C X4 _
  ·have l3' : ∀ j, (Value.slice va3 x3.length vc3).ownBlock = some j -> w3.heap.size < j := fun j hj => by have := (o3.lt j hj).1; simp at this; omega
   clear o1 o2 o3 O1 O2 b2 b3 b4
   go_wp2_with fail
   go_meet
   exact CR.sets T4 C (fun j hj e => by have := l1 j hj; omega) (fun j hj e => by have := l2 j hj; omega) (fun j hj e => by have := l3' j hj; omega) X4 (by omega)
  ·have l2' : ∀ j, (Value.slice va2 x2.length vc2).ownBlock = some j -> w2.heap.size < j := fun j hj => by have := (o2.lt j hj).1; simp at this; omega
   have hT : w2.heap.size < w3.heap.size := T3.lt
   clear o1 o2 o3 O1 O2 b2 b3 b4
   go_wp2_with fail
   go_meet
   exact CR.sets T4 C (fun j hj e => by have := l1 j hj; omega) (fun j hj e => by have := l2' j hj; omega) (fun j hj e => by have := l3 j hj; omega) X4 (by omega)
  ·have l1' : ∀ j, (Value.slice va1 x1.length vc1).ownBlock = some j -> W1.heap.size < j := fun j hj => by
    have h : (W1.alloc (.cells #[.int .i64 0, .slice none 0 0, .slice none 0 0, .slice none 0 0] 162)).heap.size <= j := (o1.lt j hj).1
    simp at h; omega
   have hT : W1.heap.size < w2.heap.size := T2.lt
   clear o1 o2 o3 O1 O2 b2 b3 b4
   go_wp2_with fail
   go_meet
   exact CR.sets T4 C (fun j hj e => by have := l1' j hj; omega) (fun j hj e => by have := l2 j hj; omega) (fun j hj e => by have := l3 j hj; omega) X4 (by omega)
 case rest =>
 obtain ⟨p, v1, v2, v3, hs, hR, hC, ⟨m1, m2, m3⟩, hB, hp⟩ := hcut
 subst hs
 obtain ⟨w2, hw2⟩ : ∃ W, W = wc := ⟨_, rfl⟩
 subst hw2
 clear p0 p1 p2 S1 S2 S3 f0
 have fz1 : ∀ k, k < x1.length -> (x1.getD k ByteArray.empty).size <= 9223372036854775807 := fun k hk => by have := y1 k hk; omega
 have fz2 : ∀ k, k < x2.length -> (x2.getD k ByteArray.empty).size <= 9223372036854775807 := fun k hk => by have := y2 k hk; omega
 have fz3 : ∀ k, k < x3.length -> (x3.getD k ByteArray.empty).size <= 9223372036854775807 := fun k hk => by have := y3 k hk; omega
 obtain ⟨e1a, e1c, ev1, t1⟩ := ownSSN hC.o1 fz1
 obtain ⟨e2a, e2c, ev2, t2⟩ := ownSSN hC.o2 fz2
 obtain ⟨e3a, e3c, ev3, t3⟩ := ownSSN hC.o3 fz3
 simp only [] at ev1 ev2 ev3
 subst ev1 ev2 ev3
 have hlt1 : w.heap.size + 1 < W1.heap.size := f1.lt
 have hK := kindOf 0 e1a e2a e3a e1c e2c e3c x1 x2 x3 w2 t1.1 t2.1 t3.1 n1 n2 n3
 have hf1 := f1.below (by omega) hB
 have c0 := hR.at_ 0 _ rfl
 have c1' := hR.at_ 1 _ rfl
 have c2' := hR.at_ 2 _ rfl
 have c3' := hR.at_ 3 _ rfl
 have hp2 : p < w2.heap.size := hR.lt
 obtain ⟨K, hKe⟩ : ∃ K, kd x1 x2 x3 = K := ⟨_, rfl⟩
 rw [hKe] at hK
 have HK : Hid (kd x1 x2 x3 = K) := hKe
 clear hKe t1 t2 t3 f1
 go_wp2_with fail
 refine hK.mono ?_; rintro e w3 ⟨rfl, b3⟩
 have R3 := hR.below hp2 b3
 have g1 := hf1.below (by have := hB.size; omega) b3
 have C3' := hC.below b3
 have B3 := hB.trans (b3.mono hB.size)
 have hp3 : p < w3.heap.size := R3.lt
 clear c0 c1' c2' c3' hR hf1 hC hB b3 hK
 obtain ⟨W9, hW9⟩ : ∃ W, (((((w3.setCell ⟨p, 0, none⟩ (.int .i64 K)).setCell ⟨w.heap.size + 1, 0, none⟩ (.int .i64 K)).setCell ⟨w.heap.size + 1, 1, none⟩ (.slice e1a x1.length e1c)).setCell ⟨w.heap.size + 1, 2, none⟩ (.slice e2a x2.length e2c)).setCell ⟨w.heap.size + 1, 3, none⟩ (.slice e3a x3.length e3c)) = W := ⟨_, rfl⟩
 have HW9 : Hid (_ = W9) := hW9
 have F8 : Fr p (p + 1) w3 (w3.setCell ⟨p, 0, none⟩ (.int .i64 K)) := Fr.ofSet _ _ _ _
 have F9 : Fr (w.heap.size + 1) (w.heap.size + 1 + 1) (w3.setCell ⟨p, 0, none⟩ (.int .i64 K)) W9 := by rw [<- hW9]; exact fourSets _ _ 0 _ _ _ _
 have CF : Hid (C3 w.heap.size W9 (kd x1 x2 x3, x1, x2, x3) (.slice e1a x1.length e1c) (.slice e2a x2.length e2c) (.slice e3a x3.length e3c)) := by
  show C3 _ _ _ _ _ _
  have h8 := C3'.fr F8 (fun j hj => by have := m1 j hj; omega) (fun j hj => by have := m2 j hj; omega) (fun j hj => by have := m3 j hj; omega)
  have h9 := h8.fr F9 (fun j hj => by have := (C3'.o1.lt j hj).1; omega) (fun j hj => by have := (C3'.o2.lt j hj).1; omega) (fun j hj => by have := (C3'.o3.lt j hj).1; omega)
  have h10 := h9.mono (b := w.heap.size) (by omega)
  exact ⟨h10.o1, h10.o2, h10.o3, h10.d12, h10.d13, h10.d23⟩
 have BF : Hid (Below w.heap.size w W9) := by
  show Below _ _ _
  have B4 := goB (w' := w3) (a := w) (B3) B1
  have B8 := F8.below B4 (by omega) B4.size
  exact F9.below B8 (by omega) B8.size
 have d0 := R3.at_ 0 _ rfl
 have d1 := R3.at_ 1 _ rfl
 have d2 := R3.at_ 2 _ rfl
 have d3 := R3.at_ 3 _ rfl
 have y0' := R3.fz 0
 have u0 := g1.at_ 0 _ rfl
 have u1 := g1.at_ 1 _ rfl
 have u2 := g1.at_ 2 _ rfl
 have u3 := g1.at_ 3 _ rfl
 have z0' := g1.fz 0
 have z1' := g1.fz 1
 have z2' := g1.fz 2
 have z3' := g1.fz 3
 have hpne : ¬ p = w.heap.size + 1 := by omega
 have hpne' : ¬ w.heap.size + 1 = p := by omega
 have R9 : Rf W9 (w.heap.size + 1) [.int .i64 K, .slice e1a x1.length e1c, .slice e2a x2.length e2c, .slice e3a x3.length e3c] := by
  rw [<- hW9]
  exact ((((g1.other (b' := p) (by omega) _).set (o := 0) (by simp) _).set (o := 1) (by simp) _).set (o := 2) (by simp) _).set (o := 3) (by simp) _
 clear C3' F8 F9 B3 R3 g1 hW9 B1 m1 m2 m3
 go_wp2
 rw [HW9.out]
 clear u0 u1 u2 u3
 have u0 := R9.at_ 0 _ rfl
 have u1 := R9.at_ 1 _ rfl
 have u2 := R9.at_ 2 _ rfl
 have u3 := R9.at_ 3 _ rfl
 refine bodyPost_ret (v := .agg #[.int .i64 K, .slice e1a x1.length e1c, .slice e2a x2.length e2c, .slice e3a x3.length e3c]) (by simp [results, Tryz.results190, go_sem, u0, u1, u2, u3]) rfl ?_
 exact ⟨_, _, _, by rw [HK.out], CF.out, BF.out⟩
end Go.Proofs.YtcfnkndbhpdfnaaGreatDoor
namespace Go.Proofs.YtcfnkndbhpdfnaaGreatDoor
open Go.ChangeShapes Go.WideShapes Go.ChangeAt Go.RowKit
theorem l4Copy (ss : List ByteArray) (a : Option Addr) (c : Nat) (w : World) (h : SSN w.heap.size w a c ss) (hn : ss.length <= 1048576) :
  Calls Tryz.prog 149 #[.slice a ss.length c] w fun e w' => RP ss w e w' := by
 go_enter Tryz.func149, Tryz.ntmps149
 have o1 : (w.alloc (.cells #[] 9)).ownsRow w.heap.size 9 1 (.slice (some ⟨w.heap.size, 0, none⟩) 0 0) ([] : List ByteArray).length (([] : List ByteArray).map Value.string) := World.ownsRow_lit w #[] 0 (Nat.le_refl _) (Nat.zero_le _) rfl
 have s1 := h.below (allocBelow w (.cells #[] 9))
 go_wp2_with (at_builtin; refine wpList_appN rfl (.tmp 3) (.tmp 4) rfl w.heap.size w.heap.size _ _ rfl o1 _ _ _ rfl s1 (by simp; omega) (by simp) ?_; intro v3 w3 o3 g3 _)
 have hB3 : Below w.heap.size w w3 := (allocBelow w _).grown g3 (by simp) (fun j hj => (o1.lt j hj).1)
 simp only [List.nil_append] at o3
 clear o1 s1 g3 h
 go_ret
 exact ⟨_, rfl, o3, hB3⟩
theorem newsCells (w : World) (vs : Array Value) (t : TypeId) : ∀ j u, vs.toList[j]? = some u -> (w.alloc (.cells vs t)).cell? ((⟨w.heap.size, 0, none⟩ : Addr).add j) = some u := fun j u hj => by
 rw [add_plain, Nat.zero_add]; exact Rs.new w vs t j u hj
def PutP (base : Nat) (v : Value) (L : List Ck) (w : World) (e : Ending) (w' : World) : Prop := ∃ v' sl', e = .returned v' /\ KO base w' v' L sl' /\ w.grownBy w' v.ownBlock
set_option maxRecDepth 20000 in
set_option maxHeartbeats 2000000 in
theorem l4Put (base : Nat) (v : Value) (L : List Ck) (sl : Nat -> Value) (a1 a2 a3 : Option Addr) (c1 c2 c3 : Nat) (x1 x2 x3 : List ByteArray) (w : World) (hO : KO base w v L sl) (hb : base <= w.heap.size) (h1 : SSN w.heap.size w a1 c1 x1) (h2 : SSN w.heap.size w a2 c2 x2) (h3 : SSN w.heap.size w a3 c3 x3) (n1 : x1.length <= 1048576) (n2 : x2.length <= 1048576) (n3 : x3.length <= 1048576) (hL : L.length <= 1048576)
  (hbr : bare (0, x1, x2, x3) = false) :
  Calls Tryz.prog 121 #[v, .slice a1 x1.length c1, .slice a2 x2.length c2, .slice a3 x3.length c3] w fun e w' => PutP base v (L ++ [(kd x1 x2 x3, x1, x2, x3)]) w e w' := by
 obtain ⟨i1, hi', hy0, hy1, hy2⟩ := info_parts infoChunk
 have hq : ((x1.length : Int) + (x2.length : Int) + (x3.length : Int) == 0) = false := by rw [<- bare_sum 0]; exact hbr
 have hK := l4KindQ a1 a2 a3 c1 c2 c3 x1 x2 x3 w (h1.1.toSS (Nat.le_refl _)) (h2.1.toSS (Nat.le_refl _)) (h3.1.toSS (Nat.le_refl _)) n1 n2 n3
 obtain ⟨ra, rc, er⟩ := shapeK hO.row
 have hV : ∀ b, v.ownBlock = some b -> base <= b /\ b < w.heap.size := fun b hb => hO.row.lt b hb
 have hSl : ∀ k, k < L.length * 3 -> ∀ b, (sl k).ownBlock = some b -> b < w.heap.size := fun k hk b hb => ((hO.each k hk).lt b hb).2
 obtain ⟨K, hKe⟩ : ∃ K, kd x1 x2 x3 = K := ⟨_, rfl⟩
 rw [hKe] at hK ⊢
 clear hKe hbr
 subst er
 go_enter Tryz.func121, Tryz.ntmps121
 go_wp2_with fail
 refine hK.mono ?_; rintro e w1 ⟨rfl, n, hw1⟩
 have B1 : Below w.heap.size w w1 := by rw [hw1]; exact below_drewN' (Below.refl _ _) n
 clear hK hw1
 go_wp2_with fail
 refine (l4Copy x1 a1 c1 w1 ((h1.below B1).mono B1.size) n1).mono ?_; rintro e w2 ⟨v1, rfl, o1, b2⟩
 obtain ⟨va1, vc1, ev1⟩ := shapeS o1
 subst ev1
 have B2 := goB b2 B1
 go_wp2_with fail
 refine (l4Copy x2 a2 c2 w2 ((h2.below B2).mono B2.size) n2).mono ?_; rintro e w3 ⟨v2, rfl, o2, b3⟩
 obtain ⟨va2, vc2, ev2⟩ := shapeS o2
 subst ev2
 have B3 := goB b3 B2
 go_wp2_with fail
 refine (l4Copy x3 a3 c3 w3 ((h3.below B3).mono B3.size) n3).mono ?_; rintro e w4 ⟨v3, rfl, o3, b4⟩
 obtain ⟨va3, vc3, ev3⟩ := shapeS o3
 subst ev3
 have B4 := goB b4 B3
 have O1 := (Fr.ofBelow (lo := 0) (hi := 0) (goB b4 b3)).own o1 (fun _ _ => .inr (Nat.zero_le _))
 have O2 := (Fr.ofBelow (lo := 0) (hi := 0) b4).own o2 (fun _ _ => .inr (Nat.zero_le _))
 have l1 := fun j hj => o1.lt j hj
 have l2 := fun j hj => o2.lt j hj
 have l3 := fun j hj => o3.lt j hj
 have s1 := B1.size
 have s2 := b2.size
 have s3 := b3.size
 have s4 := b4.size
 have C : C3 base w4 (K, x1, x2, x3) (.slice va1 x1.length vc1) (.slice va2 x2.length vc2) (.slice va3 x3.length vc3) := ⟨ownMono O1 (by omega), ownMono O2 (by omega), ownMono o3 (by omega), fun b c1 c2 => by have := l1 b c1; have := l2 b c2; omega, fun b c1 c2 => by have := l1 b c1; have := l3 b c2; omega, fun b c1 c2 => by have := l2 b c1; have := l3 b c2; omega⟩
 have H4 := hO.below B4
 have hPU := fun (W5 : World) (v' : Value) o p5 g5 k5 => KO.push (w6 := W5) (v' := v') (o := o) (M := w.heap.size) (C := (K, x1, x2, x3)) H4 C (fun b hb => (hV b hb).2) hSl (fun b hb => by have := l1 b hb; omega) (fun b hb => by have := l2 b hb; omega) (fun b hb => by have := l3 b hb; omega) p5 g5 k5
 have hrow := H4.row
 clear o1 o2 o3 O1 O2 b2 b3 b4 l1 l2 l3 h1 h2 h3 B1 B2 B3 C
 go_wp2_with ((at_builtin; refine wpList_append_own_at _ rfl (.tmp 19) (.tmp 31) 140 rfl base 162 i1 (.agg #[.int .i64 0, .slice none 0 0, .slice none 0 0, .slice none 0 0]) 4 80 Tryz.underlying140 hi' hy0 hy1 hy2 rfl (by decide) _ _ _ rfl (hrow.alloc _) ⟨w4.heap.size, 0, none⟩ 1 1 [.int .i64 K, .slice va1 x1.length vc1, .slice va2 x2.length vc2, .slice va3 x3.length vc3] rfl rfl (newsCells w4 #[.int .i64 K, .slice va1 x1.length vc1, .slice va2 x2.length vc2, .slice va3 x3.length vc3] 162) (by simp [Value.oneCell']) (by unfold maxLen; omega) (by omega) (by simp; omega) ?_; intro v' W5 p5 g5 _ k5))
 have HH := hPU W5 v' _ p5 g5 k5
 have HG : w.grownBy W5 (Value.slice ra L.length rc).ownBlock := grownTrans (grownTrans (grownOfBelow B4 _) (World.grownBy_alloc _ _ _)) g5
 clear hPU p5 g5 k5 hrow H4 B4 hO
 go_ret
 exact ⟨_, _, rfl, HH, HG⟩
end Go.Proofs.YtcfnkndbhpdfnaaGreatDoor
