/- The contract of spec.l1Text, with the source behind it. No statement is proved here. -/
import Derived.Test.YtkeinpobngfioaaRows
import Derived.Test.YtkeinpobngfioaaLemQ
import Derived.Test.YtkeinpobngfioaaMarksQ
import Derived.Test.YtkeinpobngfioaaDrawQ
import Derived.Test.YtkeinpobngfioaaFpSQ
import Derived.Test.YtkeinpobngfioaaSplQ
import Derived.WalkKit
import Derived.ProofKit
import Derived.Below
import Derived.WalkSpells
import Derived.Laws.Concat
namespace Go.Proofs.Ytkeinpobngfioaa
open Go.ChangeShapes Go.WideShapes Go.ChangeAt Go.RowKit

theorem Small.tot {z : Nat} {ss : List ByteArray} (h : Small z ss) : tot ss ≤ z * ss.length := by
  induction ss with
  | nil => simp [Go.Proofs.Ytkeinpobngfioaa.tot]
  | cons s ss ih =>
    have h1 := h s (by simp)
    have h2 := ih (fun x hx => h x (List.mem_cons_of_mem _ hx))
    unfold Go.Proofs.Ytkeinpobngfioaa.tot at *
    simp only [List.map_cons, List.sum_cons, List.length_cons]
    have e : (z : Int) * ((ss.length + 1 : Nat) : Int) = (z : Int) * (ss.length : Int) + z := by rw [Int.natCast_add, Int.mul_add]; simp
    rw [e]
    omega
theorem Small.sizes {z : Nat} {ss : List ByteArray} (h : Small z ss) (hz : z ≤ 9223372036854775807) : ∀ k, k < ss.length → (ss.getD k ByteArray.empty).size ≤ 9223372036854775807 := by
  intro k hk
  rw [getD_at ss k hk]
  exact Nat.le_trans (h _ (List.getElem_mem hk)) hz
theorem SS_own {w : World} {base g cap : Nat} {ss : List ByteArray} (h : w.ownsRow base 9 1 (.slice (some ⟨g, 0, none⟩) ss.length cap) ss.length (ss.map Value.string)) (hz : ∀ k, k < ss.length → (ss.getD k ByteArray.empty).size ≤ 9223372036854775807) : SS w (some ⟨g, 0, none⟩) ss := by
  obtain ⟨a', cap', e, hS, _⟩ := SS_of_row h rfl hz
  simp only [Value.slice.injEq] at e
  obtain ⟨rfl, _⟩ := e
  exact hS
theorem size_one (c : UInt8) : (⟨#[c]⟩ : ByteArray).size = 1 := rfl
def strLen : Value → Nat
  | .string s => s.size
  | _ => 0
def TextPostS (N b : Nat) (a : Option Addr) (n cap : Nat) (k : Int) (w : World) (e : Ending) (w' : World) : Prop := ∃ (x : ByteArray) (k' : Int), e = .returned (.string x) ∧ x.size ≤ 4096 ∧ Src N w' b a n cap k' ∧ k' ≤ k + 3000 ∧ w.grownBy w' (some b)
set_option maxHeartbeats 3000000 in
theorem l1TextS (N b : Nat) (a : Option Addr) (n cap : Nat) (k : Int) (w : World) (h : Src N w b a n cap k) (hk : k ≤ 1000000) :
    Calls Try.prog 15 #[.pointer (some ⟨b, 0, none⟩)] w fun e w' => TextPostS N b a n cap k w e w' := by
  go_enter Try.func15, Try.ntmps15
  go_wp2_with fail
  refine (l1Next N b a n cap k 8 _ h (by omega)).mono ?_; rintro e w1 ⟨r, rfl, hd, h1, g1⟩
  have hd0 := hd.1
  have hd1 : r < 8 := hd.2.1 (by omega)
  obtain ⟨j, rfl⟩ := Int.eq_ofNat_of_zero_le hd0
  clear hd
  go_wp2_with fail
  refine (l1Lines N b a n cap (k + 1) j _ h1 (by omega) (by omega)).mono ?_; rintro e w2 ⟨ss, g, c, k2, rfl, hl, hsm, own2, h2, hk2, g2⟩
  have htot := hsm.tot
  have hsz := catB_size ss
  have hS := SS_own own2 (hsm.sizes (by omega))
  have gg := grown_trans g1 g2
  clear g1 g2 own2 h1
  go_wp2_with fail
  refine (l1Join _ _ _ _ hS (by omega) (by omega)).mono ?_; rintro e w2 ⟨rfl, rfl⟩
  obtain ⟨x, hx⟩ : ∃ x, catB ss = x := ⟨_, rfl⟩
  rw [hx] at hsz ⊢
  have hx64 : x.size ≤ 64 := by omega
  clear hx hS hsz htot hsm
  go_wp2_with fail
  refine (l1Next N b a n cap k2 24 _ h2 (by omega)).mono ?_; rintro e w3 ⟨r, rfl, hd, h3, g3⟩
  have gg3 := grown_trans gg g3
  clear gg g3 hd h2
  by_cases q0 : (r == 0) = true
  · go_wp2_with fail
    go_ret
    exact ⟨_, k2 + 1, rfl, by rw [ByteArray.size_append]; have : (⟨#[0, 98]⟩ : ByteArray).size = 2 := rfl
                              omega, h3, by omega, gg3⟩
  have q0' : (r == 0) = false := by simpa using q0
  by_cases q1 : (r == 1) = true
  · go_wp2_with fail
    go_loopw [3] (fun t wr => ∃ (y : ByteArray) (m : Int), t = .string y ∧ y.size ≤ 2001 ∧ Src N wr b a n cap m ∧ m ≤ k2 + 1 + y.size ∧ w.grownBy wr (some b)) (fun t _ => 2001 - strLen t)
    case atStart => exact ⟨x, k2 + 1, rfl, by omega, h3, by omega, gg3⟩
    case round =>
      obtain ⟨y, m, rfl, hy, hsr, hm, hgr⟩ := hrel
      go_wp2_with fail
      refine (l1Next N b a n cap m 2 _ hsr (by omega)).mono ?_; rintro e w4 ⟨r2, rfl, hd, h4, g4⟩
      have hd0 := hd.1
      have hd1 : r2 < 2 := hd.2.1 (by omega)
      have gg4 := grown_trans hgr g4
      clear hgr g4 hd hsr
      by_cases hc : (y.size : Int) < 2000 + r2
      · have hys : (y ++ (⟨#[118]⟩ : ByteArray)).size = y.size + 1 := by rw [ByteArray.size_append]; rfl
        have HY : Hid ((y ++ (⟨#[118]⟩ : ByteArray)).size = y.size + 1) := hys
        have hb1 : y.size + (⟨#[118]⟩ : ByteArray).size ≤ 9223372036854775807 := by rw [size_one]; omega
        clear hys
        go_wp2_with fail
        go_roundw
        case rel => exact ⟨_, m + 1, rfl, by rw [HY.out]; omega, h4, by rw [HY.out]; omega, gg4⟩
        case measure => simp only [strLen]; rw [HY.out]; omega
      · go_wp2_with fail
        go_ret
        exact ⟨y, m + 1, rfl, by omega, h4, by omega, gg4⟩
  have q1' : (r == 1) = false := by simpa using q1
  by_cases q2 : (r == 2) = true
  · go_wp2_with fail
    go_loopw [3, 4] (fun t i wr => ∃ (y : ByteArray) (q : Nat) (m : Int), t = .string y ∧ i = .int .i64 q ∧ q ≤ 101 ∧ y.size ≤ 64 + q ∧ Src N wr b a n cap m ∧ m ≤ k2 + 1 + q ∧ w.grownBy wr (some b)) (fun _ i _ => 101 - (intOf i).toNat)
    case atStart => exact ⟨x, 0, k2 + 1, rfl, rfl, by omega, by omega, h3, by omega, gg3⟩
    case round =>
      obtain ⟨y, q, m, rfl, rfl, hq, hy, hsr, hm, hgr⟩ := hrel
      go_wp2_with fail
      refine (l1Next N b a n cap m 2 _ hsr (by omega)).mono ?_; rintro e w4 ⟨r2, rfl, hd, h4, g4⟩
      have hd0 := hd.1
      have hd1 : r2 < 2 := hd.2.1 (by omega)
      have gg4 := grown_trans hgr g4
      clear hgr g4 hd hsr
      by_cases hc : (q : Int) < 100 + r2
      · have hys : (y ++ (⟨#[10]⟩ : ByteArray)).size = y.size + 1 := by rw [ByteArray.size_append]; rfl
        have HY : Hid ((y ++ (⟨#[10]⟩ : ByteArray)).size = y.size + 1) := hys
        have hb1 : y.size + (⟨#[10]⟩ : ByteArray).size ≤ 9223372036854775807 := by rw [size_one]; omega
        clear hys
        go_wp2_with fail
        go_roundw
        case rel => exact ⟨_, q + 1, m + 1, rfl, by go_num, by omega, by rw [HY.out]; omega, h4, by omega, gg4⟩
        case measure => simp [intOf]; omega
      · go_wp2_with fail
        go_ret
        exact ⟨y, m + 1, rfl, by omega, h4, by omega, gg4⟩
  have q2' : (r == 2) = false := by simpa using q2
  go_wp2_with fail
  go_ret
  exact ⟨x, k2 + 1, rfl, by omega, h3, by omega, gg3⟩

end Go.Proofs.Ytkeinpobngfioaa
