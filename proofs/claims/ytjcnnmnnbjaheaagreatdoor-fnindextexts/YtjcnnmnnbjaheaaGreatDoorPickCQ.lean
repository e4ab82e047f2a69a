/- One of some numbers, as the specification draws it. No statement is proved here. -/
import Derived.Test.YtjcnnmnnbjaheaaGreatDoorRows
import Derived.Test.YtjcnnmnnbjaheaaGreatDoorLemQ
import Derived.Test.YtjcnnmnnbjaheaaGreatDoorDrawQ
import Derived.WalkKit
import Derived.ProofKit
import Derived.Below
import Derived.WalkSpells
import Derived.Maps.AppendAt
import Derived.Deep.QuietTactic
import Derived.BigQuiet
import Derived.Deep.RegionWith
import Derived.Test.YtjcnnmnnbjaheaaGreatDoorLFLemQ
import Derived.Test.YtjcnnmnnbjaheaaGreatDoorDTabQ
import Derived.Test.YtjcnnmnnbjaheaaGreatDoorHkTQ
import Derived.Deep.RegionHeld
import Derived.Laws.BitsLemmas
namespace Go.Proofs.YtjcnnmnnbjaheaaGreatDoor
open Go.ChangeShapes Go.WideShapes Go.ChangeAt Go.RowKit
set_option maxHeartbeats 800000 in
theorem l1Pick (N b : Nat) (a : Option Addr) (n cap : Nat) (k : Int) (g m c : Nat) (P : Int → Prop) (w : World) (h : Src N w b a n cap k) (hk : k ≤ 4294967296) (hm : 0 < m) (hm2 : m ≤ 1000) (hg : g ≠ b) (_ : g < w.heap.size)
    (hl : ∀ j, j < m → ∃ v, w.cell? ⟨g, j, none⟩ = some (.int .i64 v) ∧ P v) :
    Calls Tryz.prog 39 #[.pointer (some ⟨b, 0, none⟩), .slice (some ⟨g, 0, none⟩) m c] w fun e w' => ∃ v, e = .returned (.int .i64 v) ∧ P v ∧ Src N w' b a n cap (k + 1) ∧ w.grownBy w' (some b) := by
  have hlt := h.lt
  go_enter Tryz.func39, Tryz.ntmps39
  go_wp2_with fail
  refine (l1Next N b a n cap k m _ h hk).mono ?_; rintro e w2 ⟨r, rfl, hd, hs, gg⟩
  have hd0 := hd.1
  have hd1 : r < m := hd.2.1 (by omega)
  obtain ⟨j, rfl⟩ := Int.eq_ofNat_of_zero_le hd0
  have hj : j < m := by omega
  obtain ⟨v, hv, hP⟩ := hl j hj
  have hv2 : w2.cell? ⟨g, j, none⟩ = some (.int .i64 v) := gg.cell hv (by simp; exact hg)
  clear hd hd0 hl hv
  go_wp2_with fail
  go_ret
  exact ⟨v, rfl, hP, hs, gg⟩
end Go.Proofs.YtjcnnmnnbjaheaaGreatDoor
/- A text that is cut or turned somewhere, as the specification draws it; rows of texts. No statement is proved here. -/
set_option linter.unusedVariables false
namespace Go.Proofs.YtjcnnmnnbjaheaaGreatDoor
open Go.ChangeShapes Go.WideShapes Go.ChangeAt Go.RowKit

theorem conv_oneP (a : Nat) (ha : a < 256) (x : Int) (hx : x = (a : Int)) (W : World) (g c : Nat) (h0 : W.cell? ⟨g, 0, none⟩ = some (.int .u8 x)) :
    (convert 22 9 (.slice (some ⟨g, 0, none⟩) 1 c)).run Tryz.prog W = .ok (.string ⟨#[a.toUInt8]⟩) W := by
  have ea : (a.toUInt8.toNat : Int) = (a : Int) := by
    have : a.toUInt8.toNat = a % 256 := by simp
    omega
  refine run_convert_bytes_back _ 22 9 5 ⟨g, 0, none⟩ c [a.toUInt8] Tryz.underlying22 Tryz.underlying5 Tryz.underlying9 ?_
  intro j hj
  have : j = 0 := by simp at hj; omega
  subst this
  show _ = some (Value.int .u8 (a.toUInt8.toNat : Int))
  rw [ea, ← hx, add_plain]
  exact h0
/-- A row of texts that lie in a block of their own. -/
def LitB (W : World) (g : Nat) (n m : Nat) : Prop := ∀ j, j < n → ∃ x : ByteArray, W.cell? ⟨g, j, none⟩ = some (.string x) ∧ x.size ≤ m
theorem lit_new (w : World) (xs : List ByteArray) (t : TypeId) (m : Nat) (hm : ∀ x ∈ xs, x.size ≤ m) : LitB (w.alloc (.cells (xs.map Value.string).toArray t)) w.heap.size xs.length m := by
  intro j hj
  refine ⟨xs[j], ?_, hm _ (List.getElem_mem hj)⟩
  rw [cell_of_row _ w.heap.size j _ _ _ (heap_alloc_new w _)]
  simp [hj]
theorem LitB.kept {W W' : World} {g n m : Nat} {row : Option Nat} (h : LitB W g n m) (hg : W.grownBy W' row) (hne : some g ≠ row) : LitB W' g n m := fun j hj => by
  obtain ⟨x, hx, hz⟩ := h j hj
  exact ⟨x, hg.cell hx hne, hz⟩
def CutP (b : Nat) (m : Nat) (w : World) (e : Ending) (w' : World) : Prop := ∃ x : ByteArray, e = .returned (.string x) ∧ x.size ≤ m ∧ w.grownBy w' (some b)
theorem ext_sz (t : ByteArray) (i j : Nat) : (t.extract i j).size ≤ t.size := by rw [ByteArray.size_extract]; omega
theorem grD {w w' : World} {r : Option Nat} (h : w.grownBy w' r) : w.grownBy w'.drew r := ⟨h.os, h.tape, h.output, h.size, h.block⟩
theorem grDN {w w' : World} {r : Option Nat} (h : w.grownBy w' r) (n : Nat) : w.grownBy (w'.drewN n) r := ⟨h.os, h.tape, h.output, h.size, h.block⟩
theorem grA {w : World} {o : Obj} {r : Option Nat} : w.grownBy (w.alloc o) r := World.grownBy_alloc w o r
theorem grT2 {w w1 w2 : World} {r : Option Nat} (h : w.grownBy w1 r) (h2 : w1.grownBy w2 r) : w.grownBy w2 r := grown_trans h h2
set_option maxRecDepth 20000 in
set_option maxHeartbeats 4000000 in
theorem l3Cut (N b : Nat) (a : Option Addr) (n cap : Nat) (k : Int) (t : ByteArray) (w : World) (h : Src N w b a n cap k) (hk : k ≤ 5000000) (ht : t.size ≤ 100000) :
    Calls Tryz.prog 20 #[.pointer (some ⟨b, 0, none⟩), .string t] w fun e w' => CutP b (t.size + t.size + 10) w e w' := by
  by_cases h0 : t.size = 0
  · have et : t = ⟨#[]⟩ := by
      apply ByteArray.ext
      apply Array.ext'
      exact List.length_eq_zero_iff.1 (by simpa using h0)
    subst et
    obtain ⟨W1, hW1⟩ : ∃ W, w.alloc (.cells ([(⟨#[]⟩ : ByteArray), ⟨#[32]⟩, ⟨#[64, 64]⟩, ⟨#[10]⟩].map Value.string).toArray 9) = W := ⟨_, rfl⟩
    have b1 : Below w.heap.size w W1 := by rw [← hW1]; exact allocBelow _ _
    have l1 : LitB W1 w.heap.size 4 10 := by rw [← hW1]; exact lit_new w _ _ 10 (by decide)
    have s1 := h.below b1
    have hlt := h.lt
    have hN := l1Next N b a n cap k 4 W1 s1 (by omega)
    simp only [List.map_cons, List.map_nil] at hW1
    go_enter Tryz.func20, Tryz.ntmps20
    go_wp2_with fail
    refine hN.mono ?_; rintro e w2 ⟨r, rfl, hd, s2, g2⟩
    have hd0 := hd.1
    have hd1 : r < 4 := hd.2.1 (by omega)
    obtain ⟨j, rfl⟩ := Int.eq_ofNat_of_zero_le hd0
    obtain ⟨x, hx, hz⟩ := (l1.kept g2 (by simp; omega)) j (by omega)
    have G2 : w.grownBy w2 (some b) := grown_trans (grown_of_below b1 (some b)) g2
    have qj : (j : Int) < 4 := hd1
    clear hW1 hN hd s1 s2 g2 l1 b1
    go_wp2
    go_ret
    exact ⟨x, rfl, by omega, G2⟩
  · have ht0 : ¬ t = ⟨#[]⟩ := fun e => h0 (by rw [e]; rfl)
    have hb : t.toList.isEmpty = false := by
      cases e : t.toList with
      | nil =>
        have h9 : t.toList.length = 0 := by rw [e]; rfl
        rw [ByteArray.toList_eq] at h9
        exact absurd (by simpa using h9) h0
      | cons x y => rfl
    have hlt := h.lt
    have hlb : ∃ M : Nat, t.size + t.size + 10 = M := ⟨_, rfl⟩
    obtain ⟨M, hM⟩ := hlb
    rw [hM]
    go_enter Tryz.func20, Tryz.ntmps20
    go_wp2_with fail
    refine (l1Next N b a n cap k _ _ h (by omega)).mono ?_; rintro e w1 ⟨r, rfl, hd, s1, g1⟩
    have hd0 := hd.1
    have hd1 : r < (t.size : Int) := hd.2.1 (by omega)
    obtain ⟨i, rfl⟩ := Int.eq_ofNat_of_zero_le hd0
    have hi : i < t.size := by omega
    clear hd hd0 h
    go_wp2_with fail
    refine (l1Next N b a n cap _ 4 _ s1 (by omega)).mono ?_; rintro e w2 ⟨r2, rfl, hd2, s2, g2⟩
    have G2 := grown_trans g1 g2
    have z2 := s2.lt
    clear s1 g1 g2 hd2
    have q1 : (i : Int) ≤ (t.size : Int) := by omega
    have q2 : (i : Int) + 1 ≤ (t.size : Int) := by omega
    have q3 : (0 : Int) ≤ (i : Int) + 1 := by omega
    have q4 : IntKind.i64.wrap ((i : Int) + 1) = (i : Int) + 1 := by rw [IntKind.wrap_i64]; omega
    have q5 : ((i : Int) + 1).toNat = i + 1 := by omega
    by_cases c0 : (r2 == 0) = true
    · have hs9 : ¬ 9223372036854775807 < min i t.size + (t.size - (i + 1)) := by omega
      have HX : ∀ nq, Hid (CutP b M w (.returned (.string (t.extract 0 i ++ t.extract (i + 1) t.size))) (w2.drewN nq)) := fun nq => ⟨_, rfl, by rw [ByteArray.size_append]; have := ext_sz t 0 i; have := ext_sz t (i + 1) t.size; omega, grDN G2 nq⟩
      clear s2
      go_wp2_with fail
      go_quiet (fail)
      all_goals
        go_wp2
        go_ret
        exact (HX _).out
    have c0' : (r2 == 0) = false := by simpa using c0
    by_cases c1 : (r2 == 1) = true
    · obtain ⟨CS, hCS⟩ : ∃ C, Obj.cells ([(⟨#[32]⟩ : ByteArray), ⟨#[10]⟩, ⟨#[48]⟩, ⟨#[44]⟩, ⟨#[92, 10]⟩, ⟨#[45]⟩, ⟨#[43]⟩, ⟨#[64]⟩, ⟨#[58]⟩, ⟨#[97]⟩].map Value.string).toArray 9 = C := ⟨_, rfl⟩
      have bL : Below w2.heap.size w2 (w2.alloc CS) := allocBelow _ _
      have lL : LitB (w2.alloc CS).drew w2.heap.size 10 10 := by rw [← hCS]; exact lit_new w2 [(⟨#[32]⟩ : ByteArray), ⟨#[10]⟩, ⟨#[48]⟩, ⟨#[44]⟩, ⟨#[92, 10]⟩, ⟨#[45]⟩, ⟨#[43]⟩, ⟨#[64]⟩, ⟨#[58]⟩, ⟨#[97]⟩] 9 10 (by decide)
      have sA : Src N (w2.alloc CS).drew b a n cap (k + 1 + 1) := (s2.below bL).below ((Below.refl _ _).drew)
      have sD : Src N w2.drew b a n cap (k + 1 + 1) := s2.below ((Below.refl _ _).drew)
      have GA : w.grownBy (w2.alloc CS).drew (some b) := grD (grown_trans G2 (grown_of_below bL (some b)))
      have GD : w.grownBy w2.drew (some b) := grD G2
      have hPa := l1Next N b a n cap _ 10 _ sA (by omega)
      have hPb := l1Next N b a n cap _ 10 _ sD (by omega)
      have lB : ∀ w9 : World, LitB (w9.alloc CS) w9.heap.size 10 10 := fun w9 => by rw [← hCS]; exact lit_new w9 [(⟨#[32]⟩ : ByteArray), ⟨#[10]⟩, ⟨#[48]⟩, ⟨#[44]⟩, ⟨#[92, 10]⟩, ⟨#[45]⟩, ⟨#[43]⟩, ⟨#[64]⟩, ⟨#[58]⟩, ⟨#[97]⟩] 9 10 (by decide)
      have hne : some w2.heap.size ≠ some b := by simp; omega
      simp only [List.map_cons, List.map_nil] at hCS
      clear s2 bL sA sD
      go_wp2_with fail
      go_region_with (first
        | (go_at_call 38; refine hPa.mono ?_; rintro e w9 ⟨r9, rfl, hd, s9, g9⟩; have hd0 := hd.1; have hd1 : r9 < 10 := hd.2.1 (by omega); obtain ⟨j9, rfl⟩ := Int.eq_ofNat_of_zero_le hd0; obtain ⟨x9, hx9, hz9⟩ := (lL.kept g9 hne) j9 (by omega); have G9 := grown_trans GA g9; have hs9 : ¬ 9223372036854775807 < min i t.size + x9.size := (by omega); have hs8 : ¬ 9223372036854775807 < min i t.size + x9.size + (t.size - i) := (by omega); clear hd s9 g9)
        | (go_at_call 38; refine hPb.mono ?_; rintro e w9 ⟨r9, rfl, hd, s9, g9⟩; have hd0 := hd.1; have hd1 : r9 < 10 := hd.2.1 (by omega); obtain ⟨j9, rfl⟩ := Int.eq_ofNat_of_zero_le hd0; obtain ⟨x9, hx9, hz9⟩ := (lB w9) j9 (by omega); have G9 := grown_trans (grown_trans GD g9) (grA (o := CS)); have hs9 : ¬ 9223372036854775807 < min i t.size + x9.size := (by omega); have hs8 : ¬ 9223372036854775807 < min i t.size + x9.size + (t.size - i) := (by omega); clear hd s9 g9))
      all_goals
        have HX : Hid (CutP b M w (.returned (.string (t.extract 0 i ++ x9 ++ t.extract i t.size))) _) := ⟨_, rfl, by rw [ByteArray.size_append, ByteArray.size_append]; have := ext_sz t 0 i; have := ext_sz t i t.size; omega, by first | exact G9 | exact grD G9⟩
        go_wp2
        go_ret
        exact HX.out
    have c1' : (r2 == 1) = false := by simpa using c1
    by_cases c2 : (r2 == 2) = true
    · have sD : Src N w2.drew b a n cap (k + 1 + 1) := s2.below ((Below.refl _ _).drew)
      have GD : w.grownBy w2.drew (some b) := grD G2
      have hPb := l1Next N b a n cap _ 256 _ sD (by omega)
      have hs9 : ¬ 9223372036854775807 < min i t.size + 1 := by omega
      have hs8 : ¬ 9223372036854775807 < min i t.size + 1 + (t.size - (i + 1)) := by omega
      clear s2 sD
      go_wp2_with fail
      go_region_with (go_at_call 38; refine hPb.mono ?_; rintro e w9 ⟨r9, rfl, hd, s9, g9⟩; have hd0 := hd.1; have hd1 : r9 < 256 := hd.2.1 (by omega); obtain ⟨j9, rfl⟩ := Int.eq_ofNat_of_zero_le hd0; have hwr : IntKind.u8.wrap (j9 : Int) = (j9 : Int) := (by rw [IntKind.wrap_u8]; omega); have hcv := conv_oneP j9 (by omega) (j9 : Int) rfl (w9.alloc (.cells #[.int .u8 (j9 : Int)] 5)) w9.heap.size 1 (Rs.new w9 #[.int .u8 (j9 : Int)] 5 0 _ rfl); have G9 := grown_trans (grown_trans GD g9) (grA (o := .cells #[.int .u8 (j9 : Int)] 5)); clear hd s9 g9)
      all_goals
        have HX : Hid (CutP b M w (.returned (.string (t.extract 0 i ++ ⟨#[j9.toUInt8]⟩ ++ t.extract (i + 1) t.size))) _) := ⟨_, rfl, by rw [ByteArray.size_append, ByteArray.size_append]; have := ext_sz t 0 i; have := ext_sz t (i + 1) t.size; have h7 : (⟨#[j9.toUInt8]⟩ : ByteArray).size = 1 := rfl; omega, by first | exact G9 | exact grD G9⟩
        go_wp2
        go_ret
        exact HX.out
    have c2' : (r2 == 2) = false := by simpa using c2
    have HX : Hid (CutP b M w (.returned (.string (t.extract 0 i))) w2) := ⟨_, rfl, by have := ext_sz t 0 i; omega, G2⟩
    clear s2
    go_wp2
    go_ret
    exact HX.out

end Go.Proofs.YtjcnnmnnbjaheaaGreatDoor
