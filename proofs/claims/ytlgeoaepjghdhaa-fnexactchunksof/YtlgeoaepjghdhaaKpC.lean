/- The contract of keptTogether. No statement is proved here. -/
import Derived.Test.YtlgeoaepjghdhaaRows
import Derived.Test.YtlgeoaepjghdhaaLem
import Derived.Test.YtlgeoaepjghdhaaStrs
import Derived.Test.YtlgeoaepjghdhaaDTab
import Derived.Test.YtlgeoaepjghdhaaOwn
import Derived.Test.YtlgeoaepjghdhaaFr
import Derived.Test.YtlgeoaepjghdhaaHkT
import Derived.Test.YtlgeoaepjghdhaaKpM
import Derived.Test.YtlgeoaepjghdhaaKpA
import Derived.Test.YtlgeoaepjghdhaaKpB
import Derived.WalkKit
import Derived.ProofKit
import Derived.Below
import Derived.WalkSpells
import Derived.Deep.QuietTactic
import Derived.BigQuiet
import Derived.WalkMore
import Derived.Deep.LoopGhost
namespace Go.Proofs.Ytlgeoaepjghdhaa
open Go.ChangeShapes Go.WideShapes Go.ChangeAt Go.RowKit

/-- Places of a size that a text can have. -/
def T3s (l : List T3) : Prop := ∀ p ∈ l, p.1 ≤ 1048576 ∧ p.2.1 ≤ 1048576 ∧ p.2.2 ≤ 1048576
theorem t3_mem (l : List T3) (k : Nat) (hk : k < l.length) : l.getD k t3z ∈ l := by
  rw [List.getD, List.getElem?_eq_getElem hk]; exact List.getElem_mem hk
theorem bneT {a b : Int} (h : a = b) : (a != b) = false := by simp [h]
theorem bneF {a b : Int} (h : ¬ a = b) : (a != b) = true := by simp [h]
theorem tog_step {L : List T3} {k n : Nat} (hk : k < L.length) (h : n = k + tog (L.getD (k - 1) t3z) (L.drop k)) (e : L.getD k t3z = nx (L.getD (k - 1) t3z)) : n = (k + 1) + tog (L.getD (k + 1 - 1) t3z) (L.drop (k + 1)) := by
  rw [t3_drop L k hk, e, tog_yes] at h
  rw [Nat.add_sub_cancel, e]
  omega
theorem tog_stop {L : List T3} {k n : Nat} (hk : k < L.length) (h : n = k + tog (L.getD (k - 1) t3z) (L.drop k)) (e : ¬ L.getD k t3z = nx (L.getD (k - 1) t3z)) : n = k := by
  rw [t3_drop L k hk, tog_no _ e] at h
  omega
set_option maxRecDepth 20000 in
set_option maxHeartbeats 4000000 in
theorem keptTogether (a : Option Addr) (c : Nat) (p : T3) (r L : List T3) (hL : L = p :: r) (w : World) (h : TP w.heap.size w a L) (hs : T3s L) (hn : L.length ≤ 1048576) :
    Calls Try.prog 74 #[.slice a L.length c] w fun e w' => e = .returned (.int .i64 ((tog p r + 1 : Nat) : Int)) ∧ Below w.heap.size w w' := by
  have H0 : Hid (tog p r + 1 = 1 + tog (L.getD (1 - 1) t3z) (L.drop 1)) := by show _ = _; rw [hL]; simp only [List.drop_succ_cons, List.drop_zero, Nat.sub_self, List.getD_cons_zero]; omega
  obtain ⟨R, hR⟩ : ∃ R, tog p r + 1 = R := ⟨_, rfl⟩
  rw [hR] at H0 ⊢
  have hlen : 1 ≤ L.length := by rw [hL]; simp
  clear hR hL
  go_enter Try.func74, Try.ntmps74
  go_wp2
  go_step3
  go_wp2
  go_step3
  go_wp2
  go_loopw [3, 4, 5, 6] (fun i _ _ _ wr => ∃ k : Nat, 1 ≤ k ∧ k ≤ L.length ∧ i = .int .i64 k ∧ Below w.heap.size w wr ∧ Hid (R = k + tog (L.getD (k - 1) t3z) (L.drop k))) (fun i _ _ _ _ => L.length - (intOf i).toNat)
  case atStart => exact ⟨1, Nat.le_refl _, hlen, rfl, Below.refl _ _, H0⟩
  case round =>
    obtain ⟨k, hk1, hk, rfl, hbel, h0⟩ := hrel
    clear H0
    have hsz := hbel.size
    by_cases hlt : k < L.length
    · have q : (k : Int) < (L.length : Int) := by omega
      have hstep := fun e => tog_step hlt h0.out e
      have hstop := fun e => tog_stop hlt h0.out e
      have hmp := hs _ (t3_mem L (k - 1) (by omega))
      obtain ⟨g, off, e, hg, d0, d1, d2⟩ := h.below hbel (k - 1) (by omega)
      obtain ⟨g', off', e', hg', f0, f1, f2⟩ := h.below hbel k hlt
      rw [e] at e'
      simp only [Option.some.injEq, Addr.mk.injEq] at e'
      obtain ⟨rfl, rfl, _⟩ := e'
      subst e
      have hk0 : ((k - 1 : Nat) : Int) = (k : Int) - 1 := by omega
      obtain ⟨X, hX⟩ : ∃ X, L.getD (k - 1) t3z = X := ⟨_, rfl⟩
      obtain ⟨Y, hY⟩ : ∃ Y, L.getD k t3z = Y := ⟨_, rfl⟩
      obtain ⟨x0, x1, x2⟩ := X
      obtain ⟨y0, y1, y2⟩ := Y
      rw [hX] at d0 d1 d2 hmp hstep hstop
      rw [hY] at f0 f1 f2 hstep hstop
      simp only [] at d0 d1 d2 f0 f1 f2 hmp
      have hN := fun W => nextC x0 x1 x2 W hmp.1 hmp.2.1 hmp.2.2
      obtain ⟨K, hK⟩ : ∃ K, k - 1 = K := ⟨_, rfl⟩
      rw [hK] at d0 d1 d2 hk0
      have hKi : (k : Int) - 1 = (K : Int) := by omega
      have hKl : K < L.length := by omega
      clear hX hY h0 hk0
      go_wp2_with fail
      refine (hN _).mono ?_; rintro e w2 ⟨rfl, b2⟩
      obtain ⟨V, hV⟩ : ∃ V, w2.alloc (.cells #[.int .i64 ((x0 : Int) + 1), .int .i64 ((x1 : Int) + 1), .int .i64 ((x2 : Int) + 1)] 114) = V := ⟨_, rfl⟩
      have bV : Below w2.heap.size w2 V := by rw [← hV]; exact allocBelow _ _
      have rV : Rs V w2.heap.size [.int .i64 ((x0 : Int) + 1), .int .i64 ((x1 : Int) + 1), .int .i64 ((x2 : Int) + 1)] := by rw [← hV]; exact Rs.new _ _ _
      have n0 := rV 0 _ rfl
      have n1 := rV 1 _ rfl
      have n2 := rV 2 _ rfl
      have b3 : Below wr.heap.size wr V := b2.trans (bV.mono b2.size)
      have hF := Fr.ofBelow (lo := 0) (hi := 0) b3
      have m0 := hF.cell f0 (.inr (Nat.zero_le _))
      have m1 := hF.cell f1 (.inr (Nat.zero_le _))
      have m2 := hF.cell f2 (.inr (Nat.zero_le _))
      have HB := below_step hbel hsz b3
      clear hN b2 bV b3 rV hF d0 d1 d2 f0 f1 f2 hbel hsz
      have i0 : ∀ w, (Instr.index 114 (.agg #[.int .i64 (y0 : Int), .int .i64 (y1 : Int), .int .i64 (y2 : Int)]) (.int .i64 0)).run Try.prog w = .ok (.int .i64 (y0 : Int)) w := fun _ => by kernel_rfl
      have i1 : ∀ w, (Instr.index 114 (.agg #[.int .i64 (y0 : Int), .int .i64 (y1 : Int), .int .i64 (y2 : Int)]) (.int .i64 1)).run Try.prog w = .ok (.int .i64 (y1 : Int)) w := fun _ => by kernel_rfl
      have i2 : ∀ w, (Instr.index 114 (.agg #[.int .i64 (y0 : Int), .int .i64 (y1 : Int), .int .i64 (y2 : Int)]) (.int .i64 2)).run Try.prog w = .ok (.int .i64 (y2 : Int)) w := fun _ => by kernel_rfl
      go_wp2
      obtain ⟨V0, hV0⟩ : ∃ V0, V = V0 := ⟨_, rfl⟩
      go_loopw [5, 6, 23] (fun _ _ i wr => ∃ j : Nat, j ≤ 3 ∧ i = .int .i64 j ∧ wr = V0 ∧ Hid ((0 < j → y0 = x0 + 1) ∧ (1 < j → y1 = x1 + 1) ∧ (2 < j → y2 = x2 + 1))) (fun _ _ i _ => 3 - (intOf i).toNat)
      case atStart => exact ⟨0, by omega, rfl, hV0, ⟨fun h => absurd h (by omega), fun h => absurd h (by omega), fun h => absurd h (by omega)⟩⟩
      case round =>
        subst hV0
        obtain ⟨j, hj, rfl, rfl, hc⟩ := hrel
        by_cases hj3 : j < 3
        · have hjj : j = 0 ∨ j = 1 ∨ j = 2 := by omega
          rcases hjj with rfl | rfl | rfl
          · by_cases he : y0 = x0 + 1
            · have qe : ((y0 : Int) != ((x0 : Int) + 1)) = false := bneT (by omega)
              have HC : Hid ((0 < 1 → y0 = x0 + 1) ∧ (1 < 1 → y1 = x1 + 1) ∧ (2 < 1 → y2 = x2 + 1)) := ⟨fun _ => he, fun h => absurd h (by omega), fun h => absurd h (by omega)⟩
              clear hstep hstop hc he
              go_wp2
              go_roundw
              case rel => exact ⟨1, by omega, rfl, by trivial, HC⟩
              case measure => simp [intOf]
            · have qe : ((y0 : Int) != ((x0 : Int) + 1)) = true := bneF (by omega)
              have HE : Hid (R = k) := hstop (fun e => he (by have := congrArg (fun t => t.1) e; exact this))
              clear hstep hstop hc he
              go_wp2
              try rw [Exit.noGoto_ret]
              go_ret
              exact ⟨ret_int (by rw [HE.out]), HB⟩
          · by_cases he : y1 = x1 + 1
            · have qe : ((y1 : Int) != ((x1 : Int) + 1)) = false := bneT (by omega)
              have HC : Hid ((0 < 2 → y0 = x0 + 1) ∧ (1 < 2 → y1 = x1 + 1) ∧ (2 < 2 → y2 = x2 + 1)) := ⟨fun _ => hc.out.1 (by omega), fun h => he, fun h => absurd h (by omega)⟩
              clear hstep hstop hc he
              go_wp2
              go_roundw
              case rel => exact ⟨2, by omega, rfl, by trivial, HC⟩
              case measure => simp [intOf]
            · have qe : ((y1 : Int) != ((x1 : Int) + 1)) = true := bneF (by omega)
              have HE : Hid (R = k) := hstop (fun e => he (by have := congrArg (fun t => t.2.1) e; exact this))
              clear hstep hstop hc he
              go_wp2
              try rw [Exit.noGoto_ret]
              go_ret
              exact ⟨ret_int (by rw [HE.out]), HB⟩
          · by_cases he : y2 = x2 + 1
            · have qe : ((y2 : Int) != ((x2 : Int) + 1)) = false := bneT (by omega)
              have HC : Hid ((0 < 3 → y0 = x0 + 1) ∧ (1 < 3 → y1 = x1 + 1) ∧ (2 < 3 → y2 = x2 + 1)) := ⟨fun _ => hc.out.1 (by omega), fun h => hc.out.2.1 (by omega), fun h => he⟩
              clear hstep hstop hc he
              go_wp2
              go_roundw
              case rel => exact ⟨3, by omega, rfl, by trivial, HC⟩
              case measure => simp [intOf]
            · have qe : ((y2 : Int) != ((x2 : Int) + 1)) = true := bneF (by omega)
              have HE : Hid (R = k) := hstop (fun e => he (by have := congrArg (fun t => t.2.2) e; exact this))
              clear hstep hstop hc he
              go_wp2
              try rw [Exit.noGoto_ret]
              go_ret
              exact ⟨ret_int (by rw [HE.out]), HB⟩
        · obtain rfl : j = 3 := by omega
          have HN : Hid (R = (k + 1) + tog (L.getD (k + 1 - 1) t3z) (L.drop (k + 1))) := hstep (by
            have e := hc.out
            show (y0, y1, y2) = (x0 + 1, x1 + 1, x2 + 1)
            rw [e.1 (by omega), e.2.1 (by omega), e.2.2 (by omega)])
          clear hstep hstop hc
          go_wp2
          go_roundw
          case rel => exact ⟨k + 1, by omega, by omega, by go_num, HB, HN⟩
          case measure => first | (simp [intOf]; omega) | simp [intOf]
    · have q : ¬ (k : Int) < (L.length : Int) := by omega
      have HE : Hid (R = k) := by
        have := h0.out
        rw [show L.drop k = [] from List.drop_of_length_le (by omega), tog_nil] at this
        show _ = _
        omega
      clear h0
      go_wp2
      go_ret
      exact ⟨ret_int (by rw [HE.out]), hbel⟩
end Go.Proofs.Ytlgeoaepjghdhaa
