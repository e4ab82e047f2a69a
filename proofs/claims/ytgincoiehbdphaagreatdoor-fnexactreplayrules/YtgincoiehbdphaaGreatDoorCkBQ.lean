/- The contracts of linesOfSide and l4Side: the lines of one side of all chunks. No statement is proved here. -/
import Derived.Test.YtgincoiehbdphaaGreatDoorSameCQ
import Derived.Maps.AppendAt
import Derived.Laws.AppendOwnNone
import Derived.Deep.RegionWith
import Derived.Deep.CutRange
namespace Go.Proofs.YtgincoiehbdphaaGreatDoor
open Go.ChangeShapes Go.WideShapes Go.ChangeAt Go.RowKit
theorem wpList_appN {w : World} {ops : Array Oper} {rest : List Oper} {o : Oper} {a : Act} {Q : Exit -> Act -> World -> Prop} (hgd : o.guard = none) (s x : Operand)
  (ho : o.op = .call { callee := .builtin .append, args := #[s, x], argTypes := #[95, 95] })
  (base B : Nat) (v : Value) (S0 : List ByteArray) (hs : a.eval s = v) (hown : w.ownsRow base 9 1 v S0.length (S0.map Value.string))
  (ax : Option Addr) (cx : Nat) (S1 : List ByteArray) (hx : a.eval x = .slice ax S1.length cx) (hx2 : SSN B w ax cx S1)
  (hb : S0.length + S1.length <= 1048576) (hbase : base <= w.heap.size)
  (h : ∀ v' w', w'.ownsRow base 9 1 v' (S0 ++ S1).length ((S0 ++ S1).map Value.string) -> w.grownBy w' v.ownBlock -> (v'.ownBlock = v.ownBlock \/ v'.ownBlock = some w.heap.size) -> wpList Tryz.prog ops Q rest (a.put o.dst v') w') :
  wpList Tryz.prog ops Q (o :: rest) a w := by
 obtain ⟨i0, hi, hz0, hz1, hz2⟩ := info_parts infoString
 cases ax with
 | none =>
  have e3 : S1 = [] := by
   cases S1 with
   | nil => rfl
   | cons z zs => obtain ⟨b, off, e, _⟩ := hx2.1.2 0 (by simp); cases e
  subst e3
  have ec := hx2.2 rfl
  subst ec
  refine wpList_append_own_none hgd s x _ ho base _ i0 1 Tryz.underlying95 hi v _ _ hs hown hx ?_
  exact h v w (by simpa using hown) (World.grownBy.refl _ _) (.inl rfl)
 | some AD =>
  refine wpList_append_own_at _ hgd s x _ ho base _ i0 (.string ByteArray.empty) 1 16 Tryz.underlying95 hi hz0 hz1 hz2 rfl (by decide) v _ _ hs hown AD S1.length cx (S1.map Value.string) hx (by simp) (newsOf hx2.1) (oneStr _) (by unfold maxLen; omega) (by omega) hbase ?_
  intro v' w' o1 g1 _ k1
  refine h v' w' ?_ g1 k1
  rw [List.length_append, List.map_append]; exact o1
def RP (L : List ByteArray) (w : World) (e : Ending) (w' : World) : Prop := ∃ v, e = .returned v /\ w'.ownsRow w.heap.size 9 1 v L.length (L.map Value.string) /\ Below w.heap.size w w'
end Go.Proofs.YtgincoiehbdphaaGreatDoor
namespace Go.Proofs.YtgincoiehbdphaaGreatDoor
open Go.ChangeShapes Go.WideShapes Go.ChangeAt Go.RowKit
theorem Fr.zcell {w w' : World} {b o : Nat} {v : Value} (h : Below w.heap.size w w') (hc : w.cell? ⟨b, o, none⟩ = some v) : w'.cell? ⟨b, o, none⟩ = some v := (Fr.ofBelow (lo := 0) (hi := 0) h).cell hc (.inr (Nat.zero_le _))
end Go.Proofs.YtgincoiehbdphaaGreatDoor
namespace Go.Proofs.YtgincoiehbdphaaGreatDoor
open Go.ChangeShapes Go.WideShapes Go.ChangeAt Go.RowKit
theorem bare_sum (x0 : Int) (x1 x2 x3 : List ByteArray) : bare (x0, x1, x2, x3) = ((x1.length : Int) + (x2.length : Int) + (x3.length : Int) == 0) := by
 unfold bare
 by_cases h : x1.length = 0 /\ x2.length = 0 /\ x3.length = 0
 ·have e : (x1.length : Int) + (x2.length : Int) + (x3.length : Int) = 0 := by omega
  rw [e]; exact decide_eq_true h
 ·have e : ¬ (x1.length : Int) + (x2.length : Int) + (x3.length : Int) = 0 := by omega
  rw [show ((x1.length : Int) + (x2.length : Int) + (x3.length : Int) == 0) = false from beq_eq_false_iff_ne.2 e]; exact decide_eq_false h
end Go.Proofs.YtgincoiehbdphaaGreatDoor
namespace Go.Proofs.YtgincoiehbdphaaGreatDoor
open Go.ChangeShapes Go.WideShapes Go.ChangeAt Go.RowKit
def cc1 (c : Ck) : Int := if c.1 = 4 then 1 else 0
def cc (l : List Ck) : Int := (l.map cc1).sum
theorem cc_take (l : List Ck) (k : Nat) (h : k < l.length) : cc (l.take (k + 1)) = cc (l.take k) + cc1 (l.getD k cnil) := by
 unfold cc
 rw [List.take_succ_eq_append_getElem h, List.map_append, List.sum_append]
 simp [List.getD, h]
theorem cc_bd (l : List Ck) : 0 <= cc l /\ cc l <= l.length := by
 unfold cc
 induction l with
 | nil => simp
 | cons c t ih =>
  have : 0 <= cc1 c /\ cc1 c <= 1 := by unfold cc1; split <;> omega
  simp only [List.map_cons, List.sum_cons, List.length_cons]
  omega
set_option maxRecDepth 20000 in
set_option maxHeartbeats 2000000 in
theorem clashCount (a : Option Addr) (c : Nat) (l : List Ck) (w : World) (h : KB w.heap.size w a l) (hn : l.length <= 1048576) :
  Calls Tryz.prog 166 #[.slice a l.length c] w fun e w' => e = .returned (.int .i64 (cc l)) /\ Below w.heap.size w w' := by
 go_enter Tryz.func166, Tryz.ntmps166
 go_wp2
 go_loopw [3, 8] (fun t i wr => ∃ k : Nat, k <= l.length /\ i = .int .i64 k /\ t = .int .i64 (cc (l.take k)) /\ Below w.heap.size w wr) (fun _ i _ => l.length - (intOf i).toNat)
 case atStart => exact ⟨0, Nat.zero_le _, rfl, rfl, Below.refl _ _⟩
 case round =>
  obtain ⟨k, hk, rfl, rfl, hbel⟩ := hrel
  have hsz := hbel.size
  have hb := cc_bd (l.take k)
  have hb2 : ((l.take k).length : Int) <= 1048576 := by rw [List.length_take]; omega
  obtain ⟨hb0, hb1⟩ := hb
  by_cases hlt : k < l.length
  ·have q : (k : Int) < (l.length : Int) := by omega
   obtain ⟨g, off, a1, c1, a2, c2, a3, c3, e, hg, d0, d1, d2, d3, s1, s2, s3⟩ := h.below hbel k hlt
   subst e
   have hT := cc_take l k hlt
   obtain ⟨C, hCe⟩ : ∃ C, l.getD k cnil = C := ⟨_, rfl⟩
   obtain ⟨x0, x1, x2, x3⟩ := C
   rw [hCe] at d0 d1 d2 d3 hT
   simp only [] at d0 d1 d2 d3
   obtain ⟨N, hN⟩ : ∃ N, cc (l.take k) = N := ⟨_, rfl⟩
   rw [hN] at hT hb0 hb1 ⊢
   have HB := below_step hbel hsz (allocBelow wr (.cells #[.int .i64 x0, .slice a1 x1.length c1, .slice a2 x2.length c2, .slice a3 x3.length c3] 207))
   by_cases e4 : x0 = 4
   ·have HT : Hid (cc (l.take (k + 1)) = N + 1) := by show _ = _; rw [hT]; unfold cc1; rw [if_pos e4]
    have q4 : (x0 == 4) = true := by simp [e4]
    clear hT hCe s1 s2 s3 hN e4
    go_wp2
    go_roundw
    case rel => exact ⟨k + 1, by omega, by go_num, by rw [HT.out], HB⟩
    case measure => first | (simp [intOf]; omega) | simp [intOf]
   ·have HT : Hid (cc (l.take (k + 1)) = N) := by show _ = _; rw [hT]; unfold cc1; rw [if_neg e4, Int.add_zero]
    have q4 : (x0 == 4) = false := by simp [e4]
    clear hT hCe s1 s2 s3 hN e4
    go_wp2
    go_roundw
    case rel => exact ⟨k + 1, by omega, by go_num, by rw [HT.out], HB⟩
    case measure => first | (simp [intOf]; omega) | simp [intOf]
  ·have q : ¬ (k : Int) < (l.length : Int) := by omega
   have HT : Hid (cc l = cc (l.take k)) := by show _ = _; rw [List.take_of_length_le (by omega)]
   clear hb0 hb1 hb2
   go_wp2
   go_ret
   exact ⟨ret_int HT.out.symm, hbel⟩
end Go.Proofs.YtgincoiehbdphaaGreatDoor
