/- The contract of the program's PathFault. No statement is proved here. -/
import Derived.Test.YtcfnkndbhpdfnaaGreatDoorCutLQ
import Derived.Test.YtcfnkndbhpdfnaaGreatDoorIdLQ
import Derived.Test.YtcfnkndbhpdfnaaGreatDoorOpFsQ
import Derived.Test.YtcfnkndbhpdfnaaGreatDoorShelfCQ
import Derived.Test.YtcfnkndbhpdfnaaGreatDoorIterQ
import Derived.Deep.RegionHeld
import Derived.Deep.CutRange
namespace Go.Proofs.YtcfnkndbhpdfnaaGreatDoor
open Go.RowKit Go.Shelf
attribute [local go_sem] Oper.semAt_some
def pf (s : ByteArray) : Int := if (cutOf 47 s).length <= 4 /\ (cutOf 47 s).all (fun x => nf x == 0) = true then 0 else 1
theorem pf_ok {s : ByteArray} (h : (cutOf 47 s).length <= 4) (k : ∀ x ∈ cutOf 47 s, nf x = 0) : pf s = 0 := if_pos ⟨h, List.all_eq_true.2 fun x hx => by simp [k x hx]⟩
theorem pf_many {s : ByteArray} (h : 4 < (cutOf 47 s).length) : pf s = 1 := if_neg (fun q => by have := q.1; omega)
theorem pf_bad {s x : ByteArray} (h : x ∈ cutOf 47 s) (k : ¬ nf x = 0) : pf s = 1 := if_neg (fun q => k (by simpa using List.all_eq_true.1 q.2 x h))
def NumAt (W : World) (b : Nat) (x : Int) : Prop := W.cell? ⟨b, 0, none⟩ = some (.int .i64 x) /\ W.frozen? ⟨b, 0, none⟩ = false
theorem NumAt.set {W : World} {b : Nat} {x : Int} (h : NumAt W b x) (y : Int) : NumAt (W.setCell ⟨b, 0, none⟩ (.int .i64 y)) b y :=
 ⟨World.cell?_setCell_same' _ _ _ (by rw [h.1]; rfl), by rw [World.frozen?_setCell]; exact h.2⟩
theorem NumAt.other {W : World} {b c : Nat} {x : Int} (h : NumAt W b x) (hc : b ≠ c) (v : Value) : NumAt (W.setCell ⟨c, 0, none⟩ v) b x :=
 ⟨by rw [World.cell?_setCell_other _ _ _ _ (by intro e; cases e; exact hc rfl)]; exact h.1, by rw [World.frozen?_setCell]; exact h.2⟩
theorem NumAt.kept {W W' : World} {b : Nat} {x : Int} (h : NumAt W b x) {row : Option Nat} (hg : W.grownBy W' row) (hr : ∀ r, row = some r -> ∃ o : Obj, W.heap[r]? = some o /\ o.isCells = false) : NumAt W' b x :=
 ⟨cell_kept h.1 hg hr, (frozen_kept h.1 hg hr).trans h.2⟩
theorem NumAt.alloc {W : World} {b : Nat} {x : Int} (h : NumAt W b x) (o : Obj) : NumAt (W.alloc o) b x := h.kept (World.grownBy_alloc W o none) (fun r e => by cases e)
theorem NumAt.new (W : World) (x : Int) (t : TypeId) : NumAt (W.alloc (.cells #[.int .i64 x] t)) W.heap.size x :=
 ⟨box_cell (World.alloc_heap_new W _), box_frozen (World.alloc_heap_new W _)⟩
theorem heap_kept {W : World} {k : Nat} {x : Obj} (o : Obj) (h : W.heap[k]? = some x) : (W.alloc o).heap[k]? = some x := (Below.heap_alloc W o k (Array.getElem?_eq_some_iff.1 h).1).trans h
set_option maxRecDepth 100000 in
set_option maxHeartbeats 2000000 in
theorem implPathFault (s : ByteArray) (w : World) (hs : s.size <= 1048576) :
  Calls Tryz.prog 78 #[.string s] w fun e w' => e = .returned (.int .i64 (pf s)) /\ Below w.heap.size w w' := by
 have hNf := fun x w => implNameFault x w
 refine (callsIn_wide (n := 5)).1 ?_
 refine callsIn_of_wp_marks Tryz.func78 rfl trivial ?_ rfl
 simp only [Tryz.ntmps78, List.size_toArray, List.length_cons, List.length_nil, Nat.reduceAdd, Nat.reduceSub, Array.replicate_succ, Array.replicate_zero, List.push_toArray, List.append_toArray, List.nil_append, List.cons_append]
 gi_wp2_with (refine ⟨trivial, ?_⟩; gi_at_call 106; refine (callsIn_wide.2 (SplitSeq_any _ _)).mono ?_; rintro e w' ⟨rfl, rfl⟩)
 obtain ⟨b, hb⟩ : ∃ b, w.heap.size = b := ⟨_, rfl⟩
 obtain ⟨W0, hW0⟩ : ∃ W0, (((((w.alloc (.cells #[.int .i64 0] 2)).alloc (.cells #[.int .i64 0] 3)).alloc (.cells #[.string s] 9)).alloc (.cells #[.string ⟨#[47]⟩] 9)).alloc (.cells #[.int .i64 0] 3)) = W0 := ⟨_, rfl⟩
 have hz : W0.heap.size = b + 1 + 1 + 3 := by rw [<- hW0, <- hb]; simp
 have hbx : SsB W0 (b + 1 + 1) s := by
  rw [<- hW0, <- hb]
  have e1 := World.alloc_heap_new ((w.alloc (.cells #[.int .i64 0] 2)).alloc (.cells #[.int .i64 0] 3)) (.cells #[.string s] 9)
  have e2 := World.alloc_heap_new (((w.alloc (.cells #[.int .i64 0] 2)).alloc (.cells #[.int .i64 0] 3)).alloc (.cells #[.string s] 9)) (.cells #[.string ⟨#[47]⟩] 9)
  have e3 := World.alloc_heap_new ((((w.alloc (.cells #[.int .i64 0] 2)).alloc (.cells #[.int .i64 0] 3)).alloc (.cells #[.string s] 9)).alloc (.cells #[.string ⟨#[47]⟩] 9)) (.cells #[.int .i64 0] 3)
  simp only [World.size_alloc] at e1 e2 e3
  exact ⟨heap_kept _ (heap_kept _ e1), heap_kept _ e2, e3⟩
 have hN0 : NumAt W0 b 0 := by rw [<- hW0, <- hb]; exact ((((NumAt.new w 0 _).alloc _).alloc _).alloc _).alloc _
 have hN1 : NumAt W0 (b + 1) 0 := by
  have h := NumAt.new (w.alloc (.cells #[.int .i64 0] 2)) 0 3
  rw [World.size_alloc, hb] at h
  rw [<- hW0]; exact ((h.alloc _).alloc _).alloc _
 have hB0 : Below b w W0 := by
  rw [<- hW0, <- hb]
  exact (((((Below.refl _ w).alloc (Nat.le_refl _) _).alloc (by simp) _).alloc (by simp; omega) _).alloc (by simp; omega) _).alloc (by simp; omega) _
 rw [hW0]
 rw [hb]
 refine range_box rfl (by omega) (gf := 150) (lb := #[.pointer (some ⟨b + 1 + 1 + 1, 0, none⟩), .pointer (some ⟨b + 1 + 1, 0, none⟩), .pointer (some ⟨b + 1 + 1 + 2, 0, none⟩)]) rfl trivial (enters_of Tryz.func150 (by kernel_rfl) rfl)
  (b := b + 1 + 1) (e := b + 1 + 1 + 3) (T := cutOf 47 s) (by omega) (by omega) (split_seq _ (by omega) (b + 1 + 1) s hs W0 (by omega) hbx) rfl
  (fun pre W => (NumAt W b 0 /\ NumAt W (b + 1) pre.length /\ pre.length <= 4 /\ ∀ x ∈ pre, nf x = 0) /\ Below b w W)
  (fun _ W => (NumAt W b 1 /\ pf s = 1) /\ Below b w W)
  (OwnFrom.and (Own.from (fun _ _ _ _ hs hg hr => ⟨hs.1.kept hg hr, hs.2.1.kept hg hr, hs.2.2⟩) _) (ownFrom_below (Nat.le_of_eq hb.symm) (by omega)))
  (OwnFrom.and (Own.from (fun _ _ _ _ hs hg hr => ⟨hs.1.kept hg hr, hs.2⟩) _) (ownFrom_below (Nat.le_of_eq hb.symm) (by omega)))
  ⟨fun _ _ v q => ⟨⟨q.1.1.other (by omega) v, q.1.2.1.other (by omega) v, q.1.2.2⟩, q.2.setCell (p := ⟨b + 1 + 1, 0, none⟩) (show b <= b + 1 + 1 by omega) _⟩, fun _ _ q => ⟨q.1, q.2.drew⟩⟩
  ⟨fun _ _ v q => ⟨⟨q.1.1.other (by omega) v, q.1.2⟩, q.2.setCell (p := ⟨b + 1 + 1, 0, none⟩) (show b <= b + 1 + 1 by omega) _⟩, fun _ _ q => ⟨q.1, q.2.drew⟩⟩
  ⟨⟨hN0, hN1, by simp, fun x hx => by cases hx⟩, hB0⟩
  (fun x => { tmps := #[.string s, undef, .pointer (some ⟨b, 0, none⟩), .pointer (some ⟨b + 1, 0, none⟩), .string x, .string s, .func (.func 150) #[] #[.pointer (some ⟨b + 1 + 1 + 1, 0, none⟩), .pointer (some ⟨b + 1 + 1, 0, none⟩), .pointer (some ⟨b + 1 + 1 + 2, 0, none⟩)], .string x, undef, undef, undef, undef, undef, undef, undef, undef, undef], defers := [] }) ?assign ?body ?done ?stop
 case assign =>
  intro l x W K hK
  gi_wp2
  simpa using hK
 case body =>
  rintro l pre x W ⟨⟨q0, q1, q4, qa⟩, qB⟩ hpx
  rw [hz]
  have c0 := q0.1
  have f0 := q0.2
  have c1 := q1.1
  have f1 := q1.2
  have hm : x ∈ cutOf 47 s := hpx.subset (by simp)
  have hl : pre.length + 1 <= (cutOf 47 s).length := by have := hpx.length_le; simpa using this
  have n0 := q0.other (c := b + 1) (by omega) (.int .i64 ((pre.length : Int) + 1))
  have n1 := q1.set ((pre.length : Int) + 1)
  have nB := qB.setCell (p := ⟨b + 1, 0, none⟩) (show b <= b + 1 by omega) (.int .i64 ((pre.length : Int) + 1))
  have kO := KeepsOthers.setCell W ⟨b + 1, 0, none⟩ (.int .i64 ((pre.length : Int) + 1))
  have kb : ∀ k, b + 1 + 1 <= k -> k < b + 1 + 1 + 3 -> (W.setCell ⟨b + 1, 0, none⟩ (.int .i64 ((pre.length : Int) + 1))).heap[k]? = W.heap[k]? := fun k _ _ => setCell_block (by omega)
  obtain ⟨W1, hW1⟩ : ∃ W1, W.setCell ⟨b + 1, 0, none⟩ (.int .i64 ((pre.length : Int) + 1)) = W1 := ⟨_, rfl⟩
  rw [hW1] at n0 n1 nB kO kb
  have d0 := n0.1
  have g0 := n0.2
  have d1 := n1.1
  have fin1 : pf s = 1 -> ∀ a, roundLeft (b + 1 + 1 + 3) (b + 1 + 1) (b + 1 + 1 + 3) (fun pre W => (NumAt W b 0 /\ NumAt W (b + 1) pre.length /\ pre.length <= 4 /\ ∀ x ∈ pre, nf x = 0) /\ Below b w W) (fun _ W => (NumAt W b 1 /\ pf s = 1) /\ Below b w W) (pre ++ [x]) W .ret a (W1.setCell ⟨b, 0, none⟩ (.int .i64 1)) := fun e _ =>
   .inr ⟨rfl, (kO.trans (KeepsOthers.setCell _ _ _)).from _, ⟨n0.set 1, e⟩, nB.setCell (p := ⟨b, 0, none⟩) (Nat.le_refl _) _⟩
  by_cases h4 : pre.length = 4
  ·have e1 : ∀ a, Hid (roundLeft _ _ _ _ _ _ _ _ _ _) := fun a => fin1 (pf_many (by omega)) a
   have h4' : (pre.length : Int) = 4 := by omega
   have hW5 : W.setCell ⟨b + 1, 0, none⟩ (.int .i64 5) = W1 := by rw [<- hW1, h4']; rfl
   clear fin1 hNf
   gi_wp2
   refine ⟨trivial, ?_⟩
   gi_wp2
   exact (e1 _).out
  ·have h5 : (pre.length : Int) + 1 <= 4 := by omega
   have h5' : ¬ 4 < (pre.length : Int) + 1 := by omega
   by_cases hx : nf x = 0
   ·have e2 : ∀ a, Hid (roundLeft (b + 1 + 1 + 3) (b + 1 + 1) (b + 1 + 1 + 3) (fun pre W => (NumAt W b 0 /\ NumAt W (b + 1) pre.length /\ pre.length <= 4 /\ ∀ x ∈ pre, nf x = 0) /\ Below b w W) (fun _ W => (NumAt W b 1 /\ pf s = 1) /\ Below b w W) (pre ++ [x]) W .normal a W1) := fun _ =>
     .inl ⟨rfl, kO.from _, kb, ⟨n0, by simpa using n1, by simp; omega, fun y hy => by
      rcases List.mem_append.1 hy with h | h
      ·exact qa y h
      ·rw [List.mem_singleton.1 h]; exact hx⟩, nB⟩
    have hN := fun w => hNf x w
    rw [hx] at hN
    clear fin1 hNf hx qa
    gi_wp2_with (refine ⟨trivial, ?_⟩; gi_at_call 107; refine (CallsIn.inRound l (callsIn_wide.2 (hN _))).mono ?_; rintro e w' ⟨rfl, rfl⟩)
    exact (e2 _).out
   ·have e1 : ∀ a, Hid (roundLeft _ _ _ _ _ _ _ _ _ _) := fun a => fin1 (pf_bad hm hx) a
    have hx' : (nf x != 0) = true := by simpa using hx
    have hN := fun w => hNf x w
    obtain ⟨v, hv⟩ : ∃ v, nf x = v := ⟨_, rfl⟩
    rw [hv] at hN hx'
    clear fin1 hNf hx qa hv
    gi_wp2_with (refine ⟨trivial, ?_⟩; gi_at_call 107; refine (CallsIn.inRound l (callsIn_wide.2 (hN _))).mono ?_; rintro e w' ⟨rfl, rfl⟩)
    exact (e1 _).out
 case done =>
  rintro D W hD ⟨⟨q0, q1, q4, qa⟩, qB⟩ hK
  have c0 := q0.1
  have f0 := q0.2
  have HP : Hid (pf s = 0) := pf_ok q4 qa
  have hK2 := (KeepsOthers.setCell W ⟨b, 0, none⟩ (.int .i64 0)).same D _ hK rfl
  have q2 := q0.set 0
  have B2 := qB.setCell (p := ⟨b, 0, none⟩) (Nat.le_refl _) (.int .i64 0)
  clear q1 q4 qa
  gi_wp2
  refine ⟨by simp, .inl ⟨_, _, rfl, run_takeDeferred hK2, ?_⟩⟩
  have e0 := cell_kept q2.1 (grownBy_putObj' _ D (.deferred none)) (fun r e => by cases e; exact ⟨_, hK2, rfl⟩)
  refine ⟨.int .i64 0, ?_, ret_int HP.out.symm, ?_⟩
  ·simp [results, Tryz.results78, go_sem, e0]
  ·rw [hb]
   exact B2.trans (belowK_b (w := w) (Nat.le_of_eq hb.symm) _ D _ _ (by omega) hK2 rfl rfl)
 case stop =>
  rintro D pre W hD ⟨⟨q0, q1⟩, qB⟩ hK
  have HP : Hid (pf s = 1) := q1
  clear q1
  gi_wp2
  refine ⟨by simp, .inl ⟨_, _, rfl, run_takeDeferred hK, ?_⟩⟩
  have e0 := cell_kept q0.1 (grownBy_putObj' _ D (.deferred none)) (fun r e => by cases e; exact ⟨_, hK, rfl⟩)
  refine ⟨.int .i64 1, ?_, ret_int HP.out.symm, ?_⟩
  ·simp [results, Tryz.results78, go_sem, e0]
  ·rw [hb]
   exact qB.trans (belowK_b (w := w) (Nat.le_of_eq hb.symm) _ D _ _ (by omega) hK rfl rfl)
end Go.Proofs.YtcfnkndbhpdfnaaGreatDoor
namespace Go.Proofs.YtcfnkndbhpdfnaaGreatDoor.En
open Go.ChangeShapes Go.WideShapes Go.ChangeAt Go.RowKit
theorem inB12 {x1 : Int} (h : inB x1 1 2 = true) : x1 = 1 \/ x1 = 2 := by
 unfold inB at h
 simp at h
 omega
def cmI (a b : Int) : Int := if a < b then -1 else if b < a then 1 else 0
def cmB (a b : ByteArray) : Int := Lib.compareBytes a.data.toList b.data.toList
def cmE (a b : Ob) : Int := if cmB a.1 b.1 = 0 then cmI a.2.1 b.2.1 else cmB a.1 b.1
theorem cmL_cases : ∀ a b : List UInt8, (Lib.compareBytes a b = -1 /\ Op.bytesLess a b = true /\ (a == b) = false) \/ (Lib.compareBytes a b = 0 /\ Op.bytesLess a b = false /\ a = b) \/ (Lib.compareBytes a b = 1 /\ Op.bytesLess a b = false /\ (a == b) = false)
 | [], [] => .inr (.inl ⟨rfl, rfl, rfl⟩)
 | [], _ :: _ => .inl ⟨rfl, rfl, rfl⟩
 | _ :: _, [] => .inr (.inr ⟨rfl, rfl, rfl⟩)
 | x :: a, y :: b => by
  have ih := cmL_cases a b
  unfold Lib.compareBytes Op.bytesLess
  by_cases h1 : x < y
  ·have hne : ¬ x = y := fun e => by rw [e] at h1; exact UInt8.lt_irrefl _ h1
   left; simp [h1, hne]
  ·by_cases h2 : y < x
   ·have h3 : ¬ x = y := fun e => by rw [e] at h1 h2; exact h1 h2
    right; right; simp [h1, h2, h3]
   ·have e : x = y := by
     apply UInt8.toNat_inj.1
     have a1 : ¬ x.toNat < y.toNat := h1
     have a2 : ¬ y.toNat < x.toNat := h2
     omega
    subst e
    simpa [h1] using ih
theorem cmB_cases (a b : ByteArray) : (cmB a b = -1 /\ Op.bytesLess a.toList b.toList = true /\ (a.toList == b.toList) = false) \/ (cmB a b = 0 /\ a = b) \/ (cmB a b = 1 /\ Op.bytesLess a.toList b.toList = false /\ (a.toList == b.toList) = false) := by
 unfold cmB
 rw [ByteArray.toList_eq, ByteArray.toList_eq]
 rcases cmL_cases a.data.toList b.data.toList with h | ⟨h, _, e⟩ | h
 ·exact .inl h
 ·exact .inr (.inl ⟨h, bytes_inj2 (by rw [ByteArray.toList_eq, ByteArray.toList_eq]; exact e)⟩)
 ·exact .inr (.inr h)
def bh (a e : Ob) : Bool := decide (cmE a e < 0) && !((a.1.toList == e.1.toList) && (a.2.1 == 0))
def ei (x0 : ByteArray) (x1 x2 : Int) (x3 : ByteArray) : Int := if pf x0 = 0 then (if (inB x1 0 3 && inB x2 1 2) = true then (if isOf 1 x3 = true then 0 else 1) else 3) else pf x0
def eiO (o : Ob) : Int := ei o.1 o.2.1 o.2.2.1 o.2.2.2
def eiF (l : List Ob) (k : Nat) : Int := if eiO (l.getD k onil) = 0 then (if 0 < k /\ bh (l.getD (k - 1) onil) (l.getD k onil) = false then 1 else 0) else eiO (l.getD k onil)
def ixf (l : List Ob) : Int := if 200 < l.length then 2 else (((List.range l.length).map (eiF l)).find? (fun x => decide (x ≠ 0))).getD 0
theorem ixf_many {l : List Ob} (h : 200 < l.length) : ixf l = 2 := if_pos h
theorem ixf_bad {l : List Ob} {k : Nat} (h : ¬ 200 < l.length) (hk : k < l.length) (h0 : ∀ j, j < k -> eiF l j = 0) (hb : ¬ eiF l k = 0) : ixf l = eiF l k := by
 unfold ixf
 rw [if_neg h]
 have : ((List.range l.length).map (eiF l)).find? (fun x => decide (x ≠ 0)) = some (eiF l k) := by
  rw [List.find?_eq_some_iff_getElem]
  refine ⟨by simp [hb], k, by simp [hk], by simp, fun j hj => ?_⟩
  simp [h0 j hj]
 rw [this]; rfl
theorem ixf_zero {l : List Ob} (h : ixf l = 0) : l.length <= 200 /\ ∀ k, k < l.length -> eiF l k = 0 := by
 by_cases hm : 200 < l.length
 ·rw [ixf_many hm] at h; omega
 ·refine ⟨by omega, fun k hk => ?_⟩
  -- the first that is not zero
  have key : ∀ n, n <= l.length -> ∀ j, j < n -> eiF l j = 0 := by
   intro n
   induction n with
   | zero => intro _ j hj; omega
   | succ n ih =>
    intro hn j hj
    have ih' := ih (by omega)
    by_cases e : j = n
    ·subst e
     by_cases hb : eiF l j = 0
     ·exact hb
     ·have := ixf_bad hm (by omega) ih' hb
      rw [h] at this; exact this.symm
    ·exact ih' j (by omega)
  exact key l.length (Nat.le_refl _) k hk
theorem eiF_zero {l : List Ob} {k : Nat} (h : eiF l k = 0) : eiO (l.getD k onil) = 0 /\ (0 < k -> bh (l.getD (k - 1) onil) (l.getD k onil) = true) := by
 unfold eiF at h
 split at h
 ·rename_i h0
  refine ⟨h0, fun hk => ?_⟩
  cases hb : bh (l.getD (k - 1) onil) (l.getD k onil) with
  | true => rfl
  | false => rw [if_pos ⟨hk, hb⟩] at h; omega
 ·rename_i h0; exact absurd h h0
end Go.Proofs.YtcfnkndbhpdfnaaGreatDoor.En
namespace Go.Proofs.YtcfnkndbhpdfnaaGreatDoor.En
open Go.ChangeShapes Go.WideShapes Go.ChangeAt Go.RowKit
theorem isNaNI (x : Int) (w : World) : Calls Tryz.prog 127 #[.int .i64 x] w fun e w' => e = .returned (.bool false) /\ w' = w := by
 have h : (x != x) = false := by simp
 go_enter Tryz.func127, Tryz.ntmps127
 go_wp2
 go_ret
 exact ⟨rfl, rfl⟩
set_option maxHeartbeats 1000000 in
theorem compareI (x y : Int) (w : World) : Calls Tryz.prog 110 #[.int .i64 x, .int .i64 y] w fun e w' => e = .returned (.int .i64 (cmI x y)) /\ w' = w := by
 have hx := fun w => isNaNI x w
 have hy := fun w => isNaNI y w
 by_cases h1 : x < y
 ·have HR : Hid (cmI x y = -1) := if_pos h1
  go_enter Tryz.func110, Tryz.ntmps110
  go_wp2_with fail
  refine (hx _).mono ?_; rintro e w ⟨rfl, rfl⟩
  go_wp2_with fail
  refine (hy _).mono ?_; rintro e w ⟨rfl, rfl⟩
  go_wp2
  go_ret
  exact ⟨ret_int HR.out.symm, rfl⟩
 ·by_cases h2 : y < x
  ·have HR : Hid (cmI x y = 1) := by show _ = _; unfold cmI; rw [if_neg h1, if_pos h2]
   go_enter Tryz.func110, Tryz.ntmps110
   go_wp2_with fail
   refine (hx _).mono ?_; rintro e w ⟨rfl, rfl⟩
   go_wp2_with fail
   refine (hy _).mono ?_; rintro e w ⟨rfl, rfl⟩
   go_wp2
   go_ret
   exact ⟨ret_int HR.out.symm, rfl⟩
  ·have HR : Hid (cmI x y = 0) := by show _ = _; unfold cmI; rw [if_neg h1, if_neg h2]
   go_enter Tryz.func110, Tryz.ntmps110
   go_wp2_with fail
   refine (hx _).mono ?_; rintro e w ⟨rfl, rfl⟩
   go_wp2_with fail
   refine (hy _).mono ?_; rintro e w ⟨rfl, rfl⟩
   go_wp2
   go_ret
   exact ⟨ret_int HR.out.symm, rfl⟩
def orI (x y : Int) : Int := if x = 0 then y else x
set_option maxHeartbeats 2000000 in
theorem orC (x y : Int) (b : Nat) (w : World) (h0 : w.cell? ⟨b, 0, none⟩ = some (.int .i64 x)) (h1 : w.cell? ⟨b, 1, none⟩ = some (.int .i64 y)) :
  Calls Tryz.prog 108 #[.slice (some ⟨b, 0, none⟩) 2 2] w fun e w' => e = .returned (.int .i64 (orI x y)) /\ w' = w := by
 go_enter Tryz.func108, Tryz.ntmps108
 go_wp2
 go_loopw [5, 8] (fun _j i wr => ∃ k : Nat, k <= 2 /\ i = .int .i64 k /\ Hid (0 < k -> x = 0) /\ Hid (1 < k -> y = 0) /\ wr = w) (fun _ i _ => 2 - (intOf i).toNat)
 case atStart => exact ⟨0, Nat.zero_le _, by first | rfl | trivial, fun h => absurd h (by omega), fun h => absurd h (by omega), by first | rfl | trivial⟩
 case round =>
  obtain ⟨k, hk, rfl, hx, hy, rfl⟩ := hrel
  have h3 : k = 0 \/ k = 1 \/ k = 2 := by omega
  rcases h3 with rfl | rfl | rfl
  ·by_cases e : x = 0
   ·subst e
    go_wp2
    go_roundw
    case rel => exact ⟨1, by omega, by first | rfl | trivial, fun _ => (by first | rfl | trivial), fun h => absurd h (by omega), by first | rfl | trivial⟩
    case measure => simp [intOf]
   ·have q : (x != 0) = true := by simp [e]
    have HR : Hid (orI x y = x) := if_neg e
    go_wp2
    go_ret
    exact ⟨ret_int HR.out.symm, rfl⟩
  ·have e : x = 0 := hx.out (by omega)
   have HR : Hid (orI x y = y) := if_pos e
   clear hx hy
   by_cases e2 : y = 0
   ·subst e2
    go_wp2
    go_roundw
    case rel => exact ⟨2, by omega, by first | rfl | trivial, fun _ => e, fun _ => (by first | rfl | trivial), by first | rfl | trivial⟩
    case measure => simp [intOf]
   ·have q : (y != 0) = true := by simp [e2]
    clear e
    go_wp2
    go_ret
    exact ⟨ret_int HR.out.symm, rfl⟩
  ·have e : x = 0 := hx.out (by omega)
   have e2 : y = 0 := hy.out (by omega)
   have HR : Hid (orI x y = 0) := by show _ = _; unfold orI; rw [if_pos e, e2]
   clear hx hy e e2
   go_wp2
   go_ret
   exact ⟨ret_int HR.out.symm, rfl⟩
set_option maxHeartbeats 4000000 in
theorem byPathAndStageC (x y : Ob) (w : World) : Calls Tryz.prog 81 #[.agg #[.string x.1, .int .i64 x.2.1, .int .i64 x.2.2.1, .string x.2.2.2], .agg #[.string y.1, .int .i64 y.2.1, .int .i64 y.2.2.1, .string y.2.2.2]] w fun e w' => e = .returned (.int .i64 (cmE x y)) /\ Below w.heap.size w w' := by
 have hS := fun W => Tryz.strings_Compare x.1 y.1 W
 have hC := fun W => compareI x.2.1 y.2.1 W
 have hR : cmE x y = orI (cmB x.1 y.1) (cmI x.2.1 y.2.1) := rfl
 rw [hR]
 clear hR
 have hB : cmB x.1 y.1 = Lib.compareBytes x.1.data.toList y.1.data.toList := rfl
 simp only [<- hB] at hS
 clear hB
 generalize cmB x.1 y.1 = u at hS ⊢
 generalize cmI x.2.1 y.2.1 = v at hC ⊢
 obtain ⟨x0, x1, x2, x3⟩ := x
 obtain ⟨y0, y1, y2, y3⟩ := y
 simp only [] at hS hC ⊢
 have hO := fun b W p q => orC u v b W p q
 obtain ⟨R, hR⟩ : ∃ R, orI u v = R := ⟨_, rfl⟩
 rw [hR] at hO ⊢
 clear hR
 go_enter Tryz.func81, Tryz.ntmps81
 obtain ⟨W, hW⟩ : ∃ W, (w.alloc (.cells #[.string x0, .int .i64 x1, .int .i64 x2, .string x3] 86)).alloc (.cells #[.string y0, .int .i64 y1, .int .i64 y2, .string y3] 86) = W := ⟨_, rfl⟩
 have B : Below w.heap.size w W := by rw [<- hW]; exact ((Below.refl _ _).alloc (Nat.le_refl _) _).alloc (by simp) _
 have r1 : Rs (w.alloc (.cells #[.string x0, .int .i64 x1, .int .i64 x2, .string x3] 86)) w.heap.size [.string x0, .int .i64 x1, .int .i64 x2, .string x3] := Rs.new _ _ _
 have a1 := (Fr.ofBelow (lo := 0) (hi := 0) (allocBelow _ (.cells #[.string y0, .int .i64 y1, .int .i64 y2, .string y3] 86))).rs r1 (.inr (Nat.zero_le _))
 have r2 : Rs ((w.alloc (.cells #[.string x0, .int .i64 x1, .int .i64 x2, .string x3] 86)).alloc (.cells #[.string y0, .int .i64 y1, .int .i64 y2, .string y3] 86)) (w.alloc (.cells #[.string x0, .int .i64 x1, .int .i64 x2, .string x3] 86)).heap.size [.string y0, .int .i64 y1, .int .i64 y2, .string y3] := Rs.new _ _ _
 rw [hW] at a1 r2
 have p0 := a1 0 _ rfl
 have p1 := a1 1 _ rfl
 have q0 := r2 0 _ rfl
 have q1 := r2 1 _ rfl
 have hz : (w.alloc (.cells #[.string x0, .int .i64 x1, .int .i64 x2, .string x3] 86)).heap.size = w.heap.size + 1 := by simp
 rw [hz] at q0 q1
 clear hz
 clear a1 r1 r2
 obtain ⟨V, hV⟩ : ∃ V, W.alloc (.cells #[.int .i64 u, .int .i64 v] 3) = V := ⟨_, rfl⟩
 have bV : Below W.heap.size W V := by rw [<- hV]; exact allocBelow _ _
 have rV : Rs V W.heap.size [.int .i64 u, .int .i64 v] := by rw [<- hV]; exact Rs.new _ _ _
 have o0 := rV 0 _ rfl
 have o1 := rV 1 _ rfl
 have fV := Fr.ofBelow (lo := 0) (hi := 0) bV
 have pa0 := fV.cell p0 (.inr (Nat.zero_le _))
 have pa1 := fV.cell p1 (.inr (Nat.zero_le _))
 have qa0 := fV.cell q0 (.inr (Nat.zero_le _))
 have qa1 := fV.cell q1 (.inr (Nat.zero_le _))
 have BV := B.trans (bV.mono B.size)
 have hOO := hO W.heap.size V.drew o0 o1
 clear fV rV bV hO B
 go_wp2_with fail
 go_region_held (fun w' => w'.cell? ⟨w.heap.size, 0, none⟩ = some (.string x0) /\ w'.cell? ⟨w.heap.size, 1, none⟩ = some (.int .i64 x1) /\ w'.cell? ⟨w.heap.size + 1, 0, none⟩ = some (.string y0) /\ w'.cell? ⟨w.heap.size + 1, 1, none⟩ = some (.int .i64 y1)) (first | with_reducible exact ⟨p0, p1, q0, q1⟩ | with_reducible exact ⟨pa0, pa1, qa0, qa1⟩ | exact ⟨p0, p1, q0, q1⟩ | exact ⟨pa0, pa1, qa0, qa1⟩)
  ((first
   | (go_at_call 109; refine (hS _).mono ?_; rintro e w' ⟨rfl, rfl⟩)
   | (go_at_call 110; refine (hC _).mono ?_; rintro e w' ⟨rfl, rfl⟩)
   | (go_at_call 108; refine hOO.mono ?_; rintro e w' ⟨rfl, rfl⟩)))
 all_goals (go_wp2; go_ret; exact ⟨rfl, BV.drew⟩)
end Go.Proofs.YtcfnkndbhpdfnaaGreatDoor.En
namespace Go.Proofs.YtcfnkndbhpdfnaaGreatDoor
open Go.ChangeShapes Go.WideShapes Go.ChangeAt Go.RowKit
theorem byte_c {c d : UInt8} (h : ((c.toNat : Int) == (d.toNat : Int)) = true) : c = d := by
 apply UInt8.toNat_inj.1
 have := of_decide_eq_true h
 omega
theorem byte_not_c {c d : UInt8} (h : ((c.toNat : Int) == (d.toNat : Int)) = false) : ¬ c = d := by
 intro e
 rw [e] at h
 simp at h
set_option maxHeartbeats 2000000 in
theorem l7Parts (s : ByteArray) (w : World) (hs : s.size <= 1048576) :
  Calls Tryz.prog 65 #[.string s] w fun e w' => ∃ v, e = .returned v /\ w'.ownsRow w.heap.size 9 1 v (cutOf 47 s).length ((cutOf 47 s).map Value.string) /\ Below w.heap.size w w' := by
 obtain ⟨i0, hi, hz0, hz1, hz2⟩ := info_parts infoString
 go_enter Tryz.func65, Tryz.ntmps65
 go_wp2
 go_loopw [3, 4, 5] (fun v f i wr => ∃ (k fr : Nat) (pre : List ByteArray), i = .int .i64 k /\ f = .int .i64 fr /\ pre.length <= fr /\ fr <= k /\ ((k <= s.size /\ Hid (cutOf 47 s = pre ++ cutFrom 47 s fr) /\ Hid (¬ (47 : UInt8) ∈ sg s fr k)) \/ (k = s.size + 1 /\ Hid (cutOf 47 s = pre))) /\
   wr.ownsRow w.heap.size 9 1 v pre.length (pre.map Value.string) /\ Below w.heap.size w wr /\ w.heap.size + 1 <= wr.heap.size) (fun _ _ i _ => s.size + 1 - (intOf i).toNat)
 case atStart =>
  refine ⟨0, 0, [], rfl, rfl, Nat.le_refl _, Nat.le_refl _, .inl ⟨Nat.zero_le _, rfl, ?_⟩, ?_, (Below.refl _ _).alloc (Nat.le_refl _) _, by simp⟩
  ·show ¬ _; simp [sg]
  ·exact World.ownsRow_lit w #[] 0 (Nat.le_refl _) (Nat.zero_le _) rfl
 case round =>
  obtain ⟨k, fr, pre, rfl, rfl, hpl, hfk, hcase, hown, hbel, hsz⟩ := hrel
  rcases hcase with ⟨hk, hL, hN⟩ | ⟨ek, hL⟩
  ·have q : (k : Int) <= (s.size : Int) := by omega
   by_cases hlt : k < s.size
   ·have q2 : ((k : Int) == (s.size : Int)) = false := by simp; omega
    by_cases hz : ((s[k].toNat : Int) == 47) = true
    ·have hE := cutFrom_at 47 s fr k hfk hlt hN.out (byte_c hz)
     have hL' : Hid (cutOf 47 s = (pre ++ [s.extract fr k]) ++ cutFrom 47 s (k + 1)) := by
      show _ = _
      rw [hL.out, hE]; simp
     clear hE hL hN
     go_wp2_with (at_builtin; refine wpList_append_own _ rfl (.tmp 23) (.tmp 28) 105 rfl w.heap.size 9 i0 (.string ByteArray.empty) 1 16 Tryz.underlying105 hi hz0 hz1 hz2 rfl (by decide) u3 _ _ rfl (hown.alloc _) ⟨wr.heap.size, 0, none⟩ 1 1 [.string (s.extract fr k)] rfl rfl (cell_one_new _ _ _) (by simp [Value.oneCell']) (by unfold maxLen; omega) (by omega) (by simp; omega) ?_; intro v' w1 hown' hgrow _)
     have hb1 : Below w.heap.size w w1 := (hbel.alloc (by omega) _).grown hgrow (by simp; omega) (fun j hj => (hown.lt j hj).1)
     have hs1 : w.heap.size + 1 <= w1.heap.size := by have := hgrow.size; simp at this; omega
     go_roundw
     case rel =>
      refine ⟨k + 1, k + 1, pre ++ [s.extract fr k], by go_num, by go_num, by simp; omega, Nat.le_refl _, .inl ⟨by omega, hL', ?_⟩, ?_, hb1, hs1⟩
      ·show ¬ _; simp [sg]
      ·simpa using hown'
     case measure => simp [intOf]; omega
    ·have hz' : ((s[k].toNat : Int) == 47) = false := by simpa using hz
     have hN' : Hid (¬ (47 : UInt8) ∈ sg s fr (k + 1)) := by
      show ¬ _
      rw [sg_snoc s fr k hfk hlt]
      have := byte_not_c (d := 47) hz'
      simp only [List.mem_append, List.mem_singleton, not_or]
      exact ⟨hN.out, fun e => this e.symm⟩
     clear hz hN
     go_wp2
     go_roundw
     case rel => exact ⟨k + 1, fr, pre, by go_num, rfl, hpl, by omega, .inl ⟨by omega, hL, hN'⟩, hown, hbel, hsz⟩
     case measure => simp [intOf]; omega
   ·have ek : k = s.size := by omega
    subst ek
    have hE := cutFrom_last 47 s fr hN.out
    have hL' : Hid (cutOf 47 s = pre ++ [s.extract fr s.size]) := by
     show _ = _
     rw [hL.out, hE]
    clear hE hL hN q
    go_wp2_with (at_builtin; refine wpList_append_own _ rfl (.tmp 23) (.tmp 28) 105 rfl w.heap.size 9 i0 (.string ByteArray.empty) 1 16 Tryz.underlying105 hi hz0 hz1 hz2 rfl (by decide) u3 _ _ rfl (hown.alloc _) ⟨wr.heap.size, 0, none⟩ 1 1 [.string (s.extract fr s.size)] rfl rfl (cell_one_new _ _ _) (by simp [Value.oneCell']) (by unfold maxLen; omega) (by omega) (by simp; omega) ?_; intro v' w1 hown' hgrow _)
    have hb1 : Below w.heap.size w w1 := (hbel.alloc (by omega) _).grown hgrow (by simp; omega) (fun j hj => (hown.lt j hj).1)
    have hs1 : w.heap.size + 1 <= w1.heap.size := by have := hgrow.size; simp at this; omega
    go_roundw
    case rel =>
     refine ⟨s.size + 1, s.size + 1, pre ++ [s.extract fr s.size], by go_num, by go_num, by simp; omega, Nat.le_refl _, .inr ⟨rfl, hL'⟩, ?_, hb1, hs1⟩
     simpa using hown'
    case measure => simp [intOf]
  ·have q : ¬ (k : Int) <= (s.size : Int) := by omega
   clear ek
   go_wp2
   go_ret
   refine ⟨_, rfl, ?_, hbel⟩
   rw [hL.out]
   exact hown
theorem cut_small (c : UInt8) (s : ByteArray) (hs : s.size <= 1048576) : ∀ k, k < (cutOf c s).length -> ((cutOf c s).getD k ByteArray.empty).size <= 9223372036854775807 := by
 intro k hk
 have e : (cutOf c s).getD k ByteArray.empty = (cutOf c s)[k] := by simp [List.getD, hk]
 rw [e]
 have := cutFrom_size c s 0 _ (List.getElem_mem (h := hk))
 omega
set_option maxHeartbeats 2000000 in
theorem specPathFault (s : ByteArray) (w : World) (hs : s.size <= 1048576) :
  Calls Tryz.prog 41 #[.string s] w fun e w' => e = .returned (.int .i64 (pf s)) /\ Below w.heap.size w w' := by
 have hL := fun w => l7Parts s w hs
 have hlen : (cutOf 47 s).length <= 1048577 := by have := (cutFrom_len 47 s 0).2; unfold cutOf; omega
 have hsm := cut_small 47 s hs
 have hNf := fun x w => specNameFault x w
 have hmany : 4 < (cutOf 47 s).length -> Hid (pf s = 1) := fun h => pf_many h
 have hbad : ∀ k, k < (cutOf 47 s).length -> ¬ nf ((cutOf 47 s).getD k ByteArray.empty) = 0 -> Hid (pf s = 1) := fun k hk h => pf_bad (x := (cutOf 47 s).getD k ByteArray.empty) (by
  have e : (cutOf 47 s).getD k ByteArray.empty = (cutOf 47 s)[k] := by simp [List.getD, hk]
  rw [e]; exact List.getElem_mem hk) h
 have hok : (cutOf 47 s).length <= 4 -> (∀ k, k < (cutOf 47 s).length -> nf ((cutOf 47 s).getD k ByteArray.empty) = 0) -> Hid (pf s = 0) := fun h h2 => pf_ok h (fun x hx => by
  obtain ⟨k, hk, e⟩ := List.mem_iff_getElem.1 hx
  have e' : (cutOf 47 s).getD k ByteArray.empty = (cutOf 47 s)[k] := by simp [List.getD, hk]
  rw [<- e, <- e']; exact h2 k hk)
 obtain ⟨T, hT⟩ : ∃ T, cutOf 47 s = T := ⟨_, rfl⟩
 obtain ⟨R, hR⟩ : ∃ R, pf s = R := ⟨_, rfl⟩
 rw [hT] at hL hlen hsm hmany hok
 simp only [hT] at hbad
 rw [hR] at hmany hok ⊢
 simp only [hR] at hbad
 clear hT hR
 go_enter Tryz.func41, Tryz.ntmps41
 go_wp2_with fail
 refine (hL _).mono ?_
 rintro e w1 ⟨v, rfl, o1, b1⟩
 obtain ⟨a1, c1, rfl, s1, -⟩ := SS_of_row o1 rfl hsm
 clear hL o1
 by_cases h4 : 4 < T.length
 ·have hR := hmany h4
  have q : (4 : Int) < (T.length : Int) := by omega
  clear hmany hbad hok hNf s1
  go_wp2
  go_ret
  exact ⟨ret_int hR.out.symm, b1⟩
 have q : ¬ (4 : Int) < (T.length : Int) := by omega
 replace hok := hok (by omega)
 clear hmany
 go_wp2
 go_loopw [4] (fun i wr => ∃ k : Nat, k <= T.length /\ i = .int .i64 k /\ wr = w1 /\ Hid (∀ j, j < k -> nf (T.getD j ByteArray.empty) = 0)) (fun i _ => T.length - (intOf i).toNat)
 case atStart => exact ⟨0, Nat.zero_le _, rfl, rfl, fun j hj => absurd hj (Nat.not_lt_zero _)⟩
 case round =>
  obtain ⟨k, hk, rfl, rfl, hall⟩ := hrel
  by_cases hlt : k < T.length
  ·have q2 : (k : Int) < (T.length : Int) := by omega
   obtain ⟨g, off, e, hg, d0⟩ := s1.2 k hlt
   subst e
   have hb := hbad k hlt
   have hN := fun w => hNf (T.getD k ByteArray.empty) w
   have hall' : nf (T.getD k ByteArray.empty) = 0 -> Hid (∀ j, j < k + 1 -> nf (T.getD j ByteArray.empty) = 0) := fun e j hj => by
    by_cases h : j < k
    ·exact hall.out j h
    ·rw [show j = k by omega]; exact e
   obtain ⟨x, hx⟩ : ∃ x, T.getD k ByteArray.empty = x := ⟨_, rfl⟩
   rw [hx] at d0 hb hN hall'
   obtain ⟨n, hn⟩ : ∃ n, nf x = n := ⟨_, rfl⟩
   simp only [hn] at hb hN hall'
   clear hbad hok hNf hx hn s1 hall
   by_cases hz : n = 0
   ·have hA := hall' hz
    have qn : (n != 0) = false := by simp [hz]
    clear hb hall'
    go_wp2_with (go_at_call 66; refine (hN _).mono ?_; rintro e w2 ⟨rfl, rfl⟩)
    go_roundw
    case rel => exact ⟨k + 1, by omega, by go_num, trivial, hA⟩
    case measure => simp [intOf]; omega
   ·have hR := hb hz
    have qn : (n != 0) = true := by simp [hz]
    clear hb hall'
    go_wp2_with (go_at_call 66; refine (hN _).mono ?_; rintro e w2 ⟨rfl, rfl⟩)
    go_ret
    exact ⟨ret_int hR.out.symm, b1⟩
  ·have hR := hok (fun j hj => hall.out j (by omega))
   have q2 : ¬ (k : Int) < (T.length : Int) := by omega
   clear hbad hok hNf hall
   go_wp2
   go_ret
   exact ⟨ret_int hR.out.symm, b1⟩
end Go.Proofs.YtcfnkndbhpdfnaaGreatDoor
