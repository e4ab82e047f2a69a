/- The text of an index, and an index, as the specification draws them. No statement is proved here. -/
import Derived.Test.YtjcnnmnnbjaheaaGreatDoorRows
import Derived.Test.YtjcnnmnnbjaheaaGreatDoorLemQ
import Derived.Test.YtjcnnmnnbjaheaaGreatDoorLFLemQ
import Derived.Test.YtjcnnmnnbjaheaaGreatDoorDTabQ
import Derived.Test.YtjcnnmnnbjaheaaGreatDoorHkTQ
import Derived.Test.YtjcnnmnnbjaheaaGreatDoorFlLQ
import Derived.Test.YtjcnnmnnbjaheaaGreatDoorIxMQ
import Derived.Test.YtjcnnmnnbjaheaaGreatDoorIxNQ
import Derived.Test.YtjcnnmnnbjaheaaGreatDoorTrWQ
import Derived.Test.YtjcnnmnnbjaheaaGreatDoorXtFQ
import Derived.Test.YtjcnnmnnbjaheaaGreatDoorDcTQ
import Derived.Test.YtjcnnmnnbjaheaaGreatDoorDrawQ
import Derived.Test.YtjcnnmnnbjaheaaGreatDoorPickCQ
import Derived.Test.YtjcnnmnnbjaheaaGreatDoorDraw30Q
import Derived.Test.YtjcnnmnnbjaheaaGreatDoorDraw31Q
import Derived.WalkKit
import Derived.ProofKit
import Derived.Below
import Derived.WalkSpells
import Derived.Maps.AppendAt
import Derived.Deep.QuietTactic
import Derived.BigQuiet
import Derived.Deep.RegionWith
import Derived.Deep.RegionHeld
set_option linter.unusedVariables false
namespace Go.Proofs.YtjcnnmnnbjaheaaGreatDoor.En
open Go.ChangeShapes Go.WideShapes Go.ChangeAt Go.RowKit

theorem xT_sz (l : List Ob) : (xT l).size ≤ 20100 := by
  by_cases h : ixf l = 0
  · rw [xT_ok h]
    obtain ⟨h2, hA⟩ := ixf_zero h
    have h1 := xL_len l.length (Nat.le_refl _) (fun j hj => hA j hj)
    rw [List.take_length] at h1
    obtain ⟨g0, g1⟩ := dig_bd (xL l)
    have h4 := (sum_dig g0 g1).2.1
    have h3 : (smL (dig (xL l))).length ≤ 20 := by
      rw [smL_eq]
      simp only [List.length_append, List.length_cons, List.length_nil]
      omega
    have h5 : (xB l).size = (xL l).length + (smL (dig (xL l))).length := by
      rw [← size_eq]
      show (xA l).length = _
      unfold xA
      rw [List.length_append]; rfl
    omega
  · rw [xT_no h]
    exact Nat.zero_le _
theorem small_ok {l : List Ob} (h : ∀ o ∈ l, EOk o) : SmallO l := fun o ho => by
  have := h o ho
  unfold EOk at this
  omega
/-- An index that is drawn. -/
def FxD (w : World) (e : Ending) (w' : World) : Prop := ∃ (L : List Ob) (g c : Nat), e = .returned (.slice (some ⟨g, 0, none⟩) L.length c) ∧ L.length ≤ 5000 ∧ (∀ o ∈ L, EOk o) ∧ EnR w.heap.size w' g c L ∧ Below w.heap.size w w'
set_option maxRecDepth 20000 in
set_option maxHeartbeats 1600000 in
theorem drawFormatIndex (a : Option Addr) (n cap : Nat) (w : World) (h : Bts w a n) (hn : n ≤ 2097152) :
    Calls Tryz.prog 10 #[.slice a n cap] w fun e w' => FxD w e w' := by
  go_enter Tryz.func10, Tryz.ntmps10
  go_wp2_with fail
  refine (l1Source a n cap _ h (by omega)).mono ?_; rintro e w1 ⟨rfl, hs1, hb1⟩
  go_wp2_with fail
  refine (l10Draw _ _ a n cap 0 _ hs1 (by omega)).mono ?_; rintro e w2 ⟨L, g, c, k', rfl, hL, hok, hR, hs2, hk', gr⟩
  have HB : Hid (Below w.heap.size w w2) := hb1.grown gr hb1.size (fun j hj => by cases hj; exact Nat.le_refl _)
  have HR : Hid (EnR w.heap.size w2 g c L) := ownMonoF hR hb1.size
  clear hb1 gr hs1 hs2 hR
  go_wp2
  go_ret
  exact ⟨L, g, c, rfl, hL, hok, HR.out, HB.out⟩
set_option maxRecDepth 20000 in
set_option maxHeartbeats 1600000 in
theorem drawParseIndex (a : Option Addr) (n cap : Nat) (w : World) (h : Bts w a n) (hn : n ≤ 2097152) :
    Calls Tryz.prog 6 #[.slice a n cap] w fun e w' => ∃ t : ByteArray, e = .returned (.string t) ∧ t.size ≤ 60000 ∧ Below w.heap.size w w' := by
  go_enter Tryz.func6, Tryz.ntmps6
  go_wp2_with fail
  refine (l1Source a n cap _ h (by omega)).mono ?_; rintro e w1 ⟨rfl, hs1, hb1⟩
  go_wp2_with fail
  refine (l10Draw _ _ a n cap 0 _ hs1 (by omega)).mono ?_; rintro e w2 ⟨L, g, c, k', rfl, hL, hok, hR, s2, hk', gr⟩
  have B2 : Below w.heap.size w w2 := hb1.grown gr hb1.size (fun j hj => by cases hj; exact Nat.le_refl _)
  have hF := specFormatIndex (some ⟨g, 0, none⟩) c L w2 (OB.of hR) (small_ok hok) (by omega)
  have hz := xT_sz L
  obtain ⟨T, hT⟩ : ∃ T, xT L = T := ⟨_, rfl⟩
  obtain ⟨C, hC⟩ : ∃ C, ixf L = C := ⟨_, rfl⟩
  rw [hT, hC] at hF
  rw [hT] at hz
  have hfl : ∀ (x : Int) (y : ByteArray) (W : World), (Instr.field 30 (.agg #[.int .i64 x, .string y]) 1).run Tryz.prog W = .ok (.string y) W := fun x y W => by kernel_rfl
  clear hb1 gr hs1 hT hC hR
  go_wp2_with fail
  refine hF.mono ?_; rintro e w3 ⟨rfl, b3⟩
  have B3 := B2.trans (b3.mono B2.size)
  have s3 := s2.below b3
  clear b3 B2 s2 hF
  go_wp2_with fail
  refine (l1Chance _ _ a n cap _ 3 _ s3 (by omega)).mono ?_; rintro e w4 ⟨r4, rfl, s4, g4⟩
  have B4 : Below w.heap.size w w4 := B3.grown g4 B3.size (fun j hj => by cases hj; exact Nat.le_refl _)
  clear s3 g4
  cases r4 with
  | true =>
    have hCt := l3Cut _ _ a n cap _ T w4 s4 (by omega) (by omega)
    clear s4
    go_wp2_with fail
    refine hCt.mono ?_; rintro e w5 ⟨x, rfl, hx, g5⟩
    have B5 : Below w.heap.size w w5 := B4.grown g5 B4.size (fun j hj => by cases hj; exact Nat.le_refl _)
    clear hCt g5 B4 B3
    go_wp2
    go_ret
    exact ⟨x, rfl, by omega, B5⟩
  | false =>
    clear s4 B3
    go_wp2
    go_ret
    exact ⟨T, rfl, by omega, B4⟩
end Go.Proofs.YtjcnnmnnbjaheaaGreatDoor.En
