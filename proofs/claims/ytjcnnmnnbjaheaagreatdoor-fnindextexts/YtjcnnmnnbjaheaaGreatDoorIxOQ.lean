/- The order of an index's entries: the contracts of what compares them. No statement is proved here. -/
import Derived.Test.YtjcnnmnnbjaheaaGreatDoorRows
import Derived.Test.YtjcnnmnnbjaheaaGreatDoorLemQ
import Derived.Test.YtjcnnmnnbjaheaaGreatDoorDTabQ
import Derived.Test.YtjcnnmnnbjaheaaGreatDoorHkTQ
import Derived.Test.YtjcnnmnnbjaheaaGreatDoorIxMQ
import Derived.Test.YtjcnnmnnbjaheaaGreatDoorShelfQ
import Derived.WalkKit
import Derived.ProofKit
import Derived.Below
import Derived.WalkSpells
import Derived.Deep.QuietTactic
import Derived.BigQuiet
import Derived.Deep.RegionWith
import Derived.Deep.RegionHeld
import Derived.Deep.CutRange
import Derived.Laws.Cover1
namespace Go.Proofs.YtjcnnmnnbjaheaaGreatDoor.En
open Go.ChangeShapes Go.WideShapes Go.ChangeAt Go.RowKit

theorem quietM {P : Program} {f : FuncId} {args : Array Value} {w : World} {n : Nat} {v : Value} (h : Calls P f args (w.drewN n) fun e w' => e = .returned v ∧ ∃ m, w' = (w.drewN n).drewN m) : Calls P f args (w.drewN n) fun e w'' => e = .returned v ∧ ∃ m, w'' = w.drewN m := h.mono fun _ _ ⟨he, m, hm⟩ => ⟨he, n + m, by rw [hm, World.drewN_drewN]⟩
theorem quietS {P : Program} {f : FuncId} {args : Array Value} {w : World} {n : Nat} {v : Value} (h : Calls P f args (w.drewN n) fun e w' => e = .returned v ∧ w' = w.drewN n) : Calls P f args (w.drewN n) fun e w'' => e = .returned v ∧ ∃ m, w'' = w.drewN m := h.mono fun _ _ ⟨he, hm⟩ => ⟨he, n, hm⟩
theorem isNaNI (x : Int) (w : World) : Calls Tryz.prog 122 #[.int .i64 x] w fun e w' => e = .returned (.bool false) ∧ w' = w := by
  have h : (x != x) = false := by simp
  go_enter Tryz.func122, Tryz.ntmps122
  go_wp2
  go_ret
  exact ⟨rfl, rfl⟩
set_option maxHeartbeats 1000000 in
theorem compareI (x y : Int) (w : World) : Calls Tryz.prog 105 #[.int .i64 x, .int .i64 y] w fun e w' => e = .returned (.int .i64 (cmI x y)) ∧ w' = w := by
  have hx := fun w => isNaNI x w
  have hy := fun w => isNaNI y w
  by_cases h1 : x < y
  · have HR : Hid (cmI x y = -1) := if_pos h1
    go_enter Tryz.func105, Tryz.ntmps105
    go_wp2_with fail
    refine (hx _).mono ?_; rintro e w ⟨rfl, rfl⟩
    go_wp2_with fail
    refine (hy _).mono ?_; rintro e w ⟨rfl, rfl⟩
    go_wp2
    go_ret
    exact ⟨ret_int HR.out.symm, rfl⟩
  · by_cases h2 : y < x
    · have HR : Hid (cmI x y = 1) := by show _ = _; unfold cmI; rw [if_neg h1, if_pos h2]
      go_enter Tryz.func105, Tryz.ntmps105
      go_wp2_with fail
      refine (hx _).mono ?_; rintro e w ⟨rfl, rfl⟩
      go_wp2_with fail
      refine (hy _).mono ?_; rintro e w ⟨rfl, rfl⟩
      go_wp2
      go_ret
      exact ⟨ret_int HR.out.symm, rfl⟩
    · have HR : Hid (cmI x y = 0) := by show _ = _; unfold cmI; rw [if_neg h1, if_neg h2]
      go_enter Tryz.func105, Tryz.ntmps105
      go_wp2_with fail
      refine (hx _).mono ?_; rintro e w ⟨rfl, rfl⟩
      go_wp2_with fail
      refine (hy _).mono ?_; rintro e w ⟨rfl, rfl⟩
      go_wp2
      go_ret
      exact ⟨ret_int HR.out.symm, rfl⟩
def orI (x y : Int) : Int := if x = 0 then y else x
set_option maxHeartbeats 2000000 in
theorem orC (x y : Int) (b : Nat) (w : World) (h0 : w.cell? ⟨b, 0, none⟩ = some (.int .i64 x)) (h1 : w.cell? ⟨b, 1, none⟩ = some (.int .i64 y)) :
    Calls Tryz.prog 103 #[.slice (some ⟨b, 0, none⟩) 2 2] w fun e w' => e = .returned (.int .i64 (orI x y)) ∧ w' = w := by
  go_enter Tryz.func103, Tryz.ntmps103
  go_wp2
  go_loopw [5, 8] (fun _j i wr => ∃ k : Nat, k ≤ 2 ∧ i = .int .i64 k ∧ Hid (0 < k → x = 0) ∧ Hid (1 < k → y = 0) ∧ wr = w) (fun _ i _ => 2 - (intOf i).toNat)
  case atStart => exact ⟨0, Nat.zero_le _, by first | rfl | trivial, fun h => absurd h (by omega), fun h => absurd h (by omega), by first | rfl | trivial⟩
  case round =>
    obtain ⟨k, hk, rfl, hx, hy, rfl⟩ := hrel
    have h3 : k = 0 ∨ k = 1 ∨ k = 2 := by omega
    rcases h3 with rfl | rfl | rfl
    · by_cases e : x = 0
      · subst e
        go_wp2
        go_roundw
        case rel => exact ⟨1, by omega, by first | rfl | trivial, fun _ => (by first | rfl | trivial), fun h => absurd h (by omega), by first | rfl | trivial⟩
        case measure => simp [intOf]
      · have q : (x != 0) = true := by simp [e]
        have HR : Hid (orI x y = x) := if_neg e
        go_wp2
        go_ret
        exact ⟨ret_int HR.out.symm, rfl⟩
    · have e : x = 0 := hx.out (by omega)
      have HR : Hid (orI x y = y) := if_pos e
      clear hx hy
      by_cases e2 : y = 0
      · subst e2
        go_wp2
        go_roundw
        case rel => exact ⟨2, by omega, by first | rfl | trivial, fun _ => e, fun _ => (by first | rfl | trivial), by first | rfl | trivial⟩
        case measure => simp [intOf]
      · have q : (y != 0) = true := by simp [e2]
        clear e
        go_wp2
        go_ret
        exact ⟨ret_int HR.out.symm, rfl⟩
    · have e : x = 0 := hx.out (by omega)
      have e2 : y = 0 := hy.out (by omega)
      have HR : Hid (orI x y = 0) := by show _ = _; unfold orI; rw [if_pos e, e2]
      clear hx hy e e2
      go_wp2
      go_ret
      exact ⟨ret_int HR.out.symm, rfl⟩
set_option maxHeartbeats 4000000 in
theorem byPathAndStageC (x y : Ob) (w : World) : Calls Tryz.prog 85 #[.agg #[.string x.1, .int .i64 x.2.1, .int .i64 x.2.2.1, .string x.2.2.2], .agg #[.string y.1, .int .i64 y.2.1, .int .i64 y.2.2.1, .string y.2.2.2]] w fun e w' => e = .returned (.int .i64 (cmE x y)) ∧ Below w.heap.size w w' := by
  have hS := fun W => Tryz.strings_Compare x.1 y.1 W
  have hC := fun W => compareI x.2.1 y.2.1 W
  have hR : cmE x y = orI (cmB x.1 y.1) (cmI x.2.1 y.2.1) := rfl
  rw [hR]
  clear hR
  have hB : cmB x.1 y.1 = Lib.compareBytes x.1.data.toList y.1.data.toList := rfl
  simp only [← hB] at hS
  clear hB
  generalize cmB x.1 y.1 = u at hS ⊢
  generalize cmI x.2.1 y.2.1 = v at hC ⊢
  obtain ⟨x0, x1, x2, x3⟩ := x
  obtain ⟨y0, y1, y2, y3⟩ := y
  simp only [] at hS hC ⊢
  have hO := fun b W p q => orC u v b W p q
  obtain ⟨R, hR⟩ : ∃ R, orI u v = R := ⟨_, rfl⟩
  rw [hR] at hO ⊢
  clear hR
  go_enter Tryz.func85, Tryz.ntmps85
  obtain ⟨W, hW⟩ : ∃ W, (w.alloc (.cells #[.string x0, .int .i64 x1, .int .i64 x2, .string x3] 51)).alloc (.cells #[.string y0, .int .i64 y1, .int .i64 y2, .string y3] 51) = W := ⟨_, rfl⟩
  have B : Below w.heap.size w W := by rw [← hW]; exact ((Below.refl _ _).alloc (Nat.le_refl _) _).alloc (by simp) _
  have r1 : Rs (w.alloc (.cells #[.string x0, .int .i64 x1, .int .i64 x2, .string x3] 51)) w.heap.size [.string x0, .int .i64 x1, .int .i64 x2, .string x3] := Rs.new _ _ _
  have a1 := (Fr.ofBelow (lo := 0) (hi := 0) (allocBelow _ (.cells #[.string y0, .int .i64 y1, .int .i64 y2, .string y3] 51))).rs r1 (.inr (Nat.zero_le _))
  have r2 : Rs ((w.alloc (.cells #[.string x0, .int .i64 x1, .int .i64 x2, .string x3] 51)).alloc (.cells #[.string y0, .int .i64 y1, .int .i64 y2, .string y3] 51)) (w.alloc (.cells #[.string x0, .int .i64 x1, .int .i64 x2, .string x3] 51)).heap.size [.string y0, .int .i64 y1, .int .i64 y2, .string y3] := Rs.new _ _ _
  rw [hW] at a1 r2
  have p0 := a1 0 _ rfl
  have p1 := a1 1 _ rfl
  have q0 := r2 0 _ rfl
  have q1 := r2 1 _ rfl
  have hz : (w.alloc (.cells #[.string x0, .int .i64 x1, .int .i64 x2, .string x3] 51)).heap.size = w.heap.size + 1 := by simp
  rw [hz] at q0 q1
  clear hz
  clear a1 r1 r2
  obtain ⟨V, hV⟩ : ∃ V, W.alloc (.cells #[.int .i64 u, .int .i64 v] 3) = V := ⟨_, rfl⟩
  have bV : Below W.heap.size W V := by rw [← hV]; exact allocBelow _ _
  have rV : Rs V W.heap.size [.int .i64 u, .int .i64 v] := by rw [← hV]; exact Rs.new _ _ _
  have o0 := rV 0 _ rfl
  have o1 := rV 1 _ rfl
  have fV := Fr.ofBelow (lo := 0) (hi := 0) bV
  have pa0 := fV.cell p0 (.inr (Nat.zero_le _))
  have pa1 := fV.cell p1 (.inr (Nat.zero_le _))
  have qa0 := fV.cell q0 (.inr (Nat.zero_le _))
  have qa1 := fV.cell q1 (.inr (Nat.zero_le _))
  have BV := B.trans (bV.mono B.size)
  have hOO := hO W.heap.size V.drew o0 o1
  clear fV rV bV hO B
  go_wp2_with fail
  go_region_held (fun w' => w'.cell? ⟨w.heap.size, 0, none⟩ = some (.string x0) ∧ w'.cell? ⟨w.heap.size, 1, none⟩ = some (.int .i64 x1) ∧ w'.cell? ⟨w.heap.size + 1, 0, none⟩ = some (.string y0) ∧ w'.cell? ⟨w.heap.size + 1, 1, none⟩ = some (.int .i64 y1)) (first | with_reducible exact ⟨p0, p1, q0, q1⟩ | with_reducible exact ⟨pa0, pa1, qa0, qa1⟩ | exact ⟨p0, p1, q0, q1⟩ | exact ⟨pa0, pa1, qa0, qa1⟩)
    ((first
      | (go_at_call 104; refine (hS _).mono ?_; rintro e w' ⟨rfl, rfl⟩)
      | (go_at_call 105; refine (hC _).mono ?_; rintro e w' ⟨rfl, rfl⟩)
      | (go_at_call 103; refine hOO.mono ?_; rintro e w' ⟨rfl, rfl⟩)))
  all_goals (go_wp2; go_ret; exact ⟨rfl, BV.drew⟩)
set_option maxHeartbeats 4000000 in
theorem mayFollowC (x y : Ob) (w : World) : Calls Tryz.prog 51 #[.agg #[.string x.1, .int .i64 x.2.1, .int .i64 x.2.2.1, .string x.2.2.2], .agg #[.string y.1, .int .i64 y.2.1, .int .i64 y.2.2.1, .string y.2.2.2]] w fun e w' => e = .returned (.bool (bh x y)) ∧ Below w.heap.size w w' := by
  have hP := fun W => byPathAndStageC x y W
  have hR : bh x y = (decide (cmE x y < 0) && !((x.1.toList == y.1.toList) && (x.2.1 == 0))) := rfl
  rw [hR]
  clear hR
  generalize cmE x y = u at hP ⊢
  obtain ⟨x0, x1, x2, x3⟩ := x
  obtain ⟨y0, y1, y2, y3⟩ := y
  simp only [] at hP ⊢
  obtain ⟨W, hW⟩ : ∃ W, (w.alloc (.cells #[.string x0, .int .i64 x1, .int .i64 x2, .string x3] 51)).alloc (.cells #[.string y0, .int .i64 y1, .int .i64 y2, .string y3] 51) = W := ⟨_, rfl⟩
  have B : Below w.heap.size w W := by rw [← hW]; exact ((Below.refl _ _).alloc (Nat.le_refl _) _).alloc (by simp) _
  have r1 : Rs (w.alloc (.cells #[.string x0, .int .i64 x1, .int .i64 x2, .string x3] 51)) w.heap.size [.string x0, .int .i64 x1, .int .i64 x2, .string x3] := Rs.new _ _ _
  have a1 := (Fr.ofBelow (lo := 0) (hi := 0) (allocBelow _ (.cells #[.string y0, .int .i64 y1, .int .i64 y2, .string y3] 51))).rs r1 (.inr (Nat.zero_le _))
  have r2 : Rs ((w.alloc (.cells #[.string x0, .int .i64 x1, .int .i64 x2, .string x3] 51)).alloc (.cells #[.string y0, .int .i64 y1, .int .i64 y2, .string y3] 51)) (w.alloc (.cells #[.string x0, .int .i64 x1, .int .i64 x2, .string x3] 51)).heap.size [.string y0, .int .i64 y1, .int .i64 y2, .string y3] := Rs.new _ _ _
  rw [hW] at a1 r2
  have p0 := a1 0 _ rfl
  have p1 := a1 1 _ rfl
  have p2 := a1 2 _ rfl
  have p3 := a1 3 _ rfl
  have q0 := r2 0 _ rfl
  have q1 := r2 1 _ rfl
  have q2 := r2 2 _ rfl
  have q3 := r2 3 _ rfl
  have hz : (w.alloc (.cells #[.string x0, .int .i64 x1, .int .i64 x2, .string x3] 51)).heap.size = w.heap.size + 1 := by simp
  rw [hz] at q0 q1 q2 q3
  clear hz a1 r1 r2
  obtain ⟨E, hE⟩ : ∃ E, (x0.toList == y0.toList) = E := ⟨_, rfl⟩
  obtain ⟨Z, hZ⟩ : ∃ Z, (x1 == 0) = Z := ⟨_, rfl⟩
  obtain ⟨U, hU⟩ : ∃ U, decide (u < 0) = U := ⟨_, rfl⟩
  rw [hE, hZ, hU]
  have HW : Hid (W = W) := rfl
  cases E <;> cases Z <;> cases U <;>
  · go_enter Tryz.func51, Tryz.ntmps51
    go_wp2_with fail
    refine (hP _).mono ?_; rintro e w2 ⟨rfl, b2⟩
    have B2 : Hid (Below w.heap.size w w2) := B.trans (b2.mono B.size)
    clear hP b2 B
    go_wp2
    go_ret
    exact ⟨rfl, B2.out⟩
set_option maxHeartbeats 2000000 in
theorem l10BehindC (x y : Ob) (w : World) : Calls Tryz.prog 34 #[.agg #[.string x.1, .int .i64 x.2.1, .int .i64 x.2.2.1, .string x.2.2.2], .agg #[.string y.1, .int .i64 y.2.1, .int .i64 y.2.2.1, .string y.2.2.2]] w fun e w' => e = .returned (.bool (bhS x y)) ∧ Below w.heap.size w w' := by
  obtain ⟨x0, x1, x2, x3⟩ := x
  obtain ⟨y0, y1, y2, y3⟩ := y
  have B : Below w.heap.size w ((w.alloc (.cells #[.string x0, .int .i64 x1, .int .i64 x2, .string x3] 51)).alloc (.cells #[.string y0, .int .i64 y1, .int .i64 y2, .string y3] 51)) := ((Below.refl _ _).alloc (Nat.le_refl _) _).alloc (by simp) _
  cases hE : (x0.toList == y0.toList) with
  | false =>
    have HR : Hid (bhS (x0, x1, x2, x3) (y0, y1, y2, y3) = Op.bytesLess x0.toList y0.toList) := if_neg (by rw [hE]; decide)
    go_enter Tryz.func34, Tryz.ntmps34
    go_wp2
    go_ret
    exact ⟨ret_bool HR.out.symm, B⟩
  | true =>
    have hR : bhS (x0, x1, x2, x3) (y0, y1, y2, y3) = (decide (x1 < y1) && decide (0 < x1)) := if_pos hE
    by_cases h1 : x1 < y1
    · by_cases h2 : 0 < x1
      · have HR : Hid (bhS (x0, x1, x2, x3) (y0, y1, y2, y3) = true) := by show _ = _; rw [hR]; simp [h1, h2]
        clear hR
        go_enter Tryz.func34, Tryz.ntmps34
        go_wp2
        go_ret
        exact ⟨ret_bool HR.out.symm, B⟩
      · have HR : Hid (bhS (x0, x1, x2, x3) (y0, y1, y2, y3) = false) := by show _ = _; rw [hR]; simp [h2]
        clear hR
        go_enter Tryz.func34, Tryz.ntmps34
        go_wp2
        go_ret
        exact ⟨ret_bool HR.out.symm, B⟩
    · have HR : Hid (bhS (x0, x1, x2, x3) (y0, y1, y2, y3) = false) := by show _ = _; rw [hR]; simp [h1]
      clear hR
      go_enter Tryz.func34, Tryz.ntmps34
      go_wp2
      go_ret
      exact ⟨ret_bool HR.out.symm, B⟩
end Go.Proofs.YtjcnnmnnbjaheaaGreatDoor.En
