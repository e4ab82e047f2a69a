/- The contract of the specification's DrawPutObject. No statement is proved here. -/
import Derived.Test.YtnififnogdekiaaRows
import Derived.Test.YtnififnogdekiaaLemQ
import Derived.Test.YtnififnogdekiaaMarksQ
import Derived.Test.YtnififnogdekiaaDTabQ
import Derived.Test.YtnififnogdekiaaInQ
import Derived.Test.YtnififnogdekiaaIdMQ
import Derived.Test.YtnififnogdekiaaObLQ
import Derived.Test.YtnififnogdekiaaPuLQ
import Derived.Test.YtnififnogdekiaaPuSQ
import Derived.Test.YtnififnogdekiaaDrawQ
import Derived.Test.YtnififnogdekiaaDraw3SQ
import Derived.Test.YtnififnogdekiaaDraw10Q
import Derived.Test.YtnififnogdekiaaDraw12Q
import Derived.Test.YtnififnogdekiaaDraw13Q
import Derived.WalkKit
import Derived.ProofKit
import Derived.Below
import Derived.WalkSpells
namespace Go.Proofs.Ytnififnogdekiaa
open Go.ChangeShapes Go.WideShapes Go.ChangeAt Go.RowKit

theorem pick7 {w W : World} {x0 x1 x2 x3 x4 x5 x6 : Int} {t : TypeId} (h : w.alloc (.cells #[.int .i64 x0, .int .i64 x1, .int .i64 x2, .int .i64 x3, .int .i64 x4, .int .i64 x5, .int .i64 x6] t) = W) : ∀ j, j < 7 → ∃ v, W.cell? ⟨w.heap.size, j, none⟩ = some (.int .i64 v) ∧ True := by
  intro j hj
  have hc : ∀ i, W.cell? ⟨w.heap.size, i, none⟩ = _ := fun i => cell_of_row W w.heap.size i _ _ _ (by rw [← h]; exact heap_alloc_new w _)
  rw [hc]
  have : j = 0 ∨ j = 1 ∨ j = 2 ∨ j = 3 ∨ j = 4 ∨ j = 5 ∨ j = 6 := by omega
  rcases this with rfl | rfl | rfl | rfl | rfl | rfl | rfl <;> exact ⟨_, rfl, trivial⟩
def PoPost (w : World) (e : Ending) (w' : World) : Prop := ∃ (g1 c1 : Nat) (l1 : List Ob) (kd : Int) (d : ByteArray), e = .returned (.tuple #[.slice (some ⟨g1, 0, none⟩) l1.length c1, .int .i64 kd, .string d]) ∧ l1.length ≤ c1 ∧ OB w'.heap.size w' (some ⟨g1, 0, none⟩) l1 ∧ SmO l1 ∧ d.size ≤ 4096 ∧ Below w.heap.size w w'
theorem capO {w : World} {base : Nat} {e : TypeId} {s : Nat} {a : Option Addr} {n c m : Nat} {xs : List Value} (h : w.ownsRow base e s (.slice a n c) m xs) : n ≤ c := by
  rcases h.2 with ⟨h', _⟩ | ⟨g, cap, cur, h', _, _, h1, _⟩
  · simp only [Value.slice.injEq] at h'; omega
  · simp only [Value.slice.injEq] at h'
    obtain ⟨_, rfl, rfl⟩ := h'
    exact h1
set_option maxRecDepth 20000 in
set_option maxHeartbeats 8000000 in
theorem drawPutObject (a : Option Addr) (n cap : Nat) (w : World) (h : Bts w a n) (hn : n ≤ 2097152) :
    Calls Try.prog 5 #[.slice a n cap] w fun e w' => PoPost w e w' := by
  go_enter Try.func5, Try.ntmps5
  go_wp2_with fail
  refine (l1Source a n cap _ h (by omega)).mono ?_; rintro e w1 ⟨rfl, s1, b1⟩
  have lt1 := s1.lt
  go_wp2_with fail
  refine (l5Store _ _ a n cap 0 _ s1 (by omega)).mono ?_; rintro e w2 ⟨g1, c1, l1, rfl, o2, m1, g2, k2, s2, hk2⟩
  have B2 : Below w.heap.size w w2 := b1.grown g2 b1.size (fun j hj => by cases hj; exact Nat.le_refl _)
  have hg1 := (o2.lt g1 rfl).1
  clear b1 s1 g2
  go_wp2_with fail
  refine (l1TextS _ _ a n cap k2 _ s2 (by omega)).mono ?_; rintro e w3 ⟨X, k3, rfl, hX, s3, hk3, g3⟩
  have B3 : Below w.heap.size w w3 := B2.grown g3 B2.size (fun j hj => by cases hj; exact Nat.le_refl _)
  have o3 := o2.kept g3 (.inr (by rw [ownBlock_slice]; simp; omega))
  clear B2 o2 s2 g3
  by_cases hL0 : l1.length = 0
  · have q : ¬ (0 : Int) < (l1.length : Int) := by omega
    have sQ := s3
    have oQ := o3
    have BQ := B3
    clear s3 o3 B3 hL0
    go_wp2_with fail
    refine (l1Chance _ _ a n cap (k3) 6 _ sQ (by omega)).mono ?_; rintro e w6 ⟨r6, rfl, s6, g6⟩
    have B6 : Below w.heap.size w w6 := BQ.grown g6 BQ.size (fun j hj => by cases hj; exact Nat.le_refl _)
    have o6 := oQ.kept g6 (.inr (by rw [ownBlock_slice]; simp; omega))
    clear BQ oQ sQ g6
    cases r6 with
    | true =>
      go_wp2_with fail
      refine (l1Next _ _ a n cap (k3 + 1) 90 _ s6 (by omega)).mono ?_; rintro e w7 ⟨r, rfl, hd, s7, g7⟩
      have hd0 := hd.1
      have hd1 : r < 90 := hd.2.1 (by omega)
      have B7 : Below w.heap.size w w7 := B6.grown g7 B6.size (fun j hj => by cases hj; exact Nat.le_refl _)
      have hcv := conv_oneG (140 + r.toNat) (by omega) (140 + r) (by omega)
      obtain ⟨D, hD⟩ : ∃ D : ByteArray, (⟨#[(140 + r.toNat).toUInt8]⟩ : ByteArray) = D := ⟨_, rfl⟩
      rw [hD] at hcv
      have hDz : D.size ≤ 1 := by rw [← hD]; exact Nat.le_refl _
      have HZ : Hid ((⟨#[65]⟩ ++ D ++ ⟨#[122, 10]⟩ : ByteArray).size ≤ 4) := by
        show _ ≤ _
        rw [ByteArray.size_append, ByteArray.size_append]
        have e1 : (⟨#[65]⟩ : ByteArray).size = 1 := rfl
        have e2 : (⟨#[122, 10]⟩ : ByteArray).size = 2 := rfl
        omega
      have z7 := B7.size
      clear hD hd o6 B6 s6 s7 g7
      go_wp2_with fail
      obtain ⟨O, hO⟩ : ∃ O : ByteArray, (⟨#[65]⟩ ++ D ++ ⟨#[122, 10]⟩ : ByteArray) = O := ⟨_, rfl⟩
      rw [hO] at HZ ⊢
      have hOz : O.size ≤ 4 := HZ.out
      have bA := allocBelow w7 (.cells #[.int .u8 (140 + r)] 5)
      have B8 := B7.trans (bA.mono z7)
      have z8 := B8.size
      clear HZ hO hDz hcv
      refine (l5PutNil 1 O _ (by decide) (by omega)).mono ?_; rintro e w9 ⟨v9, rfl, n9, o9, b9⟩
      obtain ⟨gx, cx, rfl⟩ := rowPos o9 (n9 rfl)
      have hcx := capO o9
      have B9 := B8.trans (b9.mono z8)
      have z9 := B9.size
      have hx := OB.of o9
      clear B8 b9 n9 o9 bA B7 z7 z8
      go_wp2_with fail
      refine (l5Twin O (by omega) _).mono ?_; rintro e w10 ⟨Y, rfl, hY, b10⟩
      have HF : Hid (PoPost w (.returned (.tuple #[.slice (some ⟨gx, 0, none⟩) 1 cx, .int .i64 1, .string Y])) w10) :=
        ⟨gx, cx, [(idN 1 O, 1, O)], 1, Y, rfl, hcx, (hx.below b10).mono b10.size, one_sm O (by omega), by omega, B9.trans (b10.mono z9)⟩
      clear hx B9 z9 b10 hcx
      go_wp2_with fail
      refine bodyPost_ret (v := .tuple #[.slice (some ⟨gx, 0, none⟩) 1 cx, .int .i64 1, .string Y]) (by simp [results, Try.results5, go_sem]) rfl ?_
      exact HF.out
    | false =>
      have lt6 := s6.lt
      have z6 := B6.size
      have bA := allocBelow w6 (.cells #[.int .i64 1, .int .i64 2, .int .i64 3, .int .i64 1, .int .i64 1, .int .i64 0, .int .i64 4] 2)
      have hPk := l1Pick _ _ a n cap (k3 + 1) w6.heap.size 7 7 (fun _ => True) (w6.alloc (.cells #[.int .i64 1, .int .i64 2, .int .i64 3, .int .i64 1, .int .i64 1, .int .i64 0, .int .i64 4] 2)) (s6.below bA) (by omega) (by omega) (by omega) (by omega) (by simp) (pick7 rfl)
      go_wp2_with fail
      refine hPk.mono ?_; rintro e w7 ⟨kd, rfl, _, s7, g7⟩
      have B7 : Below w.heap.size w w7 := (B6.trans (bA.mono z6)).grown g7 (by simp; omega) (fun j hj => by cases hj; exact Nat.le_refl _)
      have o7 := (o6.alloc _).kept g7 (.inr (by rw [ownBlock_slice]; simp; omega))
      have HF : Hid (PoPost w (.returned (.tuple #[.slice (some ⟨g1, 0, none⟩) l1.length c1, .int .i64 kd, .string X])) w7) := ⟨g1, c1, l1, kd, X, rfl, capO o7, OB.of o7, m1, by omega, B7⟩
      clear hPk o6 o7 B6 B7 s6 s7 g7 bA
      go_wp2_with fail
      refine bodyPost_ret (v := .tuple #[.slice (some ⟨g1, 0, none⟩) l1.length c1, .int .i64 kd, .string X]) (by simp [results, Try.results5, go_sem]) rfl ?_
      exact HF.out
  have hlp : 0 < l1.length := by omega
  have q : (0 : Int) < (l1.length : Int) := by omega
  go_wp2_with fail
  refine (l1Chance _ _ a n cap k3 3 _ s3 (by omega)).mono ?_; rintro e w4 ⟨r4, rfl, s4, g4⟩
  have B4 : Below w.heap.size w w4 := B3.grown g4 B3.size (fun j hj => by cases hj; exact Nat.le_refl _)
  have o4 := o3.kept g4 (.inr (by rw [ownBlock_slice]; simp; omega))
  clear B3 o3 s3 g4 hL0
  cases r4 with
  | false =>
    have sQ := s4
    have oQ := o4
    have BQ := B4
    clear s4 o4 B4
    go_wp2_with fail
    refine (l1Chance _ _ a n cap ((k3 + 1)) 6 _ sQ (by omega)).mono ?_; rintro e w6 ⟨r6, rfl, s6, g6⟩
    have B6 : Below w.heap.size w w6 := BQ.grown g6 BQ.size (fun j hj => by cases hj; exact Nat.le_refl _)
    have o6 := oQ.kept g6 (.inr (by rw [ownBlock_slice]; simp; omega))
    clear BQ oQ sQ g6
    cases r6 with
    | true =>
      go_wp2_with fail
      refine (l1Next _ _ a n cap ((k3 + 1) + 1) 90 _ s6 (by omega)).mono ?_; rintro e w7 ⟨r, rfl, hd, s7, g7⟩
      have hd0 := hd.1
      have hd1 : r < 90 := hd.2.1 (by omega)
      have B7 : Below w.heap.size w w7 := B6.grown g7 B6.size (fun j hj => by cases hj; exact Nat.le_refl _)
      have hcv := conv_oneG (140 + r.toNat) (by omega) (140 + r) (by omega)
      obtain ⟨D, hD⟩ : ∃ D : ByteArray, (⟨#[(140 + r.toNat).toUInt8]⟩ : ByteArray) = D := ⟨_, rfl⟩
      rw [hD] at hcv
      have hDz : D.size ≤ 1 := by rw [← hD]; exact Nat.le_refl _
      have HZ : Hid ((⟨#[65]⟩ ++ D ++ ⟨#[122, 10]⟩ : ByteArray).size ≤ 4) := by
        show _ ≤ _
        rw [ByteArray.size_append, ByteArray.size_append]
        have e1 : (⟨#[65]⟩ : ByteArray).size = 1 := rfl
        have e2 : (⟨#[122, 10]⟩ : ByteArray).size = 2 := rfl
        omega
      have z7 := B7.size
      clear hD hd o6 B6 s6 s7 g7
      go_wp2_with fail
      obtain ⟨O, hO⟩ : ∃ O : ByteArray, (⟨#[65]⟩ ++ D ++ ⟨#[122, 10]⟩ : ByteArray) = O := ⟨_, rfl⟩
      rw [hO] at HZ ⊢
      have hOz : O.size ≤ 4 := HZ.out
      have bA := allocBelow w7 (.cells #[.int .u8 (140 + r)] 5)
      have B8 := B7.trans (bA.mono z7)
      have z8 := B8.size
      clear HZ hO hDz hcv
      refine (l5PutNil 1 O _ (by decide) (by omega)).mono ?_; rintro e w9 ⟨v9, rfl, n9, o9, b9⟩
      obtain ⟨gx, cx, rfl⟩ := rowPos o9 (n9 rfl)
      have hcx := capO o9
      have B9 := B8.trans (b9.mono z8)
      have z9 := B9.size
      have hx := OB.of o9
      clear B8 b9 n9 o9 bA B7 z7 z8
      go_wp2_with fail
      refine (l5Twin O (by omega) _).mono ?_; rintro e w10 ⟨Y, rfl, hY, b10⟩
      have HF : Hid (PoPost w (.returned (.tuple #[.slice (some ⟨gx, 0, none⟩) 1 cx, .int .i64 1, .string Y])) w10) :=
        ⟨gx, cx, [(idN 1 O, 1, O)], 1, Y, rfl, hcx, (hx.below b10).mono b10.size, one_sm O (by omega), by omega, B9.trans (b10.mono z9)⟩
      clear hx B9 z9 b10 hcx
      go_wp2_with fail
      refine bodyPost_ret (v := .tuple #[.slice (some ⟨gx, 0, none⟩) 1 cx, .int .i64 1, .string Y]) (by simp [results, Try.results5, go_sem]) rfl ?_
      exact HF.out
    | false =>
      have lt6 := s6.lt
      have z6 := B6.size
      have bA := allocBelow w6 (.cells #[.int .i64 1, .int .i64 2, .int .i64 3, .int .i64 1, .int .i64 1, .int .i64 0, .int .i64 4] 2)
      have hPk := l1Pick _ _ a n cap ((k3 + 1) + 1) w6.heap.size 7 7 (fun _ => True) (w6.alloc (.cells #[.int .i64 1, .int .i64 2, .int .i64 3, .int .i64 1, .int .i64 1, .int .i64 0, .int .i64 4] 2)) (s6.below bA) (by omega) (by omega) (by omega) (by omega) (by simp) (pick7 rfl)
      go_wp2_with fail
      refine hPk.mono ?_; rintro e w7 ⟨kd, rfl, _, s7, g7⟩
      have B7 : Below w.heap.size w w7 := (B6.trans (bA.mono z6)).grown g7 (by simp; omega) (fun j hj => by cases hj; exact Nat.le_refl _)
      have o7 := (o6.alloc _).kept g7 (.inr (by rw [ownBlock_slice]; simp; omega))
      have HF : Hid (PoPost w (.returned (.tuple #[.slice (some ⟨g1, 0, none⟩) l1.length c1, .int .i64 kd, .string X])) w7) := ⟨g1, c1, l1, kd, X, rfl, capO o7, OB.of o7, m1, by omega, B7⟩
      clear hPk o6 o7 B6 B7 s6 s7 g7 bA
      go_wp2_with fail
      refine bodyPost_ret (v := .tuple #[.slice (some ⟨g1, 0, none⟩) l1.length c1, .int .i64 kd, .string X]) (by simp [results, Try.results5, go_sem]) rfl ?_
      exact HF.out
  | true =>
    go_wp2_with fail
    refine (l1Next _ _ a n cap (k3 + 1) _ _ s4 (by omega)).mono ?_; rintro e w5 ⟨r, rfl, hd, s5, g5⟩
    have hd0 := hd.1
    have hd1 : r < l1.length := hd.2.1 (by omega)
    obtain ⟨i, rfl⟩ := Int.eq_ofNat_of_zero_le hd0
    have hi : i < l1.length := by omega
    have BQ : Below w.heap.size w w5 := B4.grown g5 B4.size (fun j hj => by cases hj; exact Nat.le_refl _)
    have oQ := o4.kept g5 (.inr (by rw [ownBlock_slice]; simp; omega))
    have C2 := (ocells_at oQ hi).2.2
    have hz := (m1.2 _ (ob_mem l1 i hi)).2
    obtain ⟨C, hCe⟩ : ∃ C, l1.getD i onil = C := ⟨_, rfl⟩
    obtain ⟨y0, y1, Z⟩ := C
    rw [hCe] at C2 hz
    simp only [] at C2 hz
    have sQ := s5
    have hiI : (i : Int) < (l1.length : Int) := by omega
    clear hCe hd hd0 B4 o4 s4 s5 g5 hX
    go_wp2_with fail
    refine (l1Chance _ _ a n cap ((k3 + 1 + 1)) 6 _ sQ (by omega)).mono ?_; rintro e w6 ⟨r6, rfl, s6, g6⟩
    have B6 : Below w.heap.size w w6 := BQ.grown g6 BQ.size (fun j hj => by cases hj; exact Nat.le_refl _)
    have o6 := oQ.kept g6 (.inr (by rw [ownBlock_slice]; simp; omega))
    clear BQ oQ sQ g6
    cases r6 with
    | true =>
      go_wp2_with fail
      refine (l1Next _ _ a n cap ((k3 + 1 + 1) + 1) 90 _ s6 (by omega)).mono ?_; rintro e w7 ⟨r, rfl, hd, s7, g7⟩
      have hd0 := hd.1
      have hd1 : r < 90 := hd.2.1 (by omega)
      have B7 : Below w.heap.size w w7 := B6.grown g7 B6.size (fun j hj => by cases hj; exact Nat.le_refl _)
      have hcv := conv_oneG (140 + r.toNat) (by omega) (140 + r) (by omega)
      obtain ⟨D, hD⟩ : ∃ D : ByteArray, (⟨#[(140 + r.toNat).toUInt8]⟩ : ByteArray) = D := ⟨_, rfl⟩
      rw [hD] at hcv
      have hDz : D.size ≤ 1 := by rw [← hD]; exact Nat.le_refl _
      have HZ : Hid ((⟨#[65]⟩ ++ D ++ ⟨#[122, 10]⟩ : ByteArray).size ≤ 4) := by
        show _ ≤ _
        rw [ByteArray.size_append, ByteArray.size_append]
        have e1 : (⟨#[65]⟩ : ByteArray).size = 1 := rfl
        have e2 : (⟨#[122, 10]⟩ : ByteArray).size = 2 := rfl
        omega
      have z7 := B7.size
      clear hD hd o6 B6 s6 s7 g7
      go_wp2_with fail
      obtain ⟨O, hO⟩ : ∃ O : ByteArray, (⟨#[65]⟩ ++ D ++ ⟨#[122, 10]⟩ : ByteArray) = O := ⟨_, rfl⟩
      rw [hO] at HZ ⊢
      have hOz : O.size ≤ 4 := HZ.out
      have bA := allocBelow w7 (.cells #[.int .u8 (140 + r)] 5)
      have B8 := B7.trans (bA.mono z7)
      have z8 := B8.size
      clear HZ hO hDz hcv
      refine (l5PutNil 1 O _ (by decide) (by omega)).mono ?_; rintro e w9 ⟨v9, rfl, n9, o9, b9⟩
      obtain ⟨gx, cx, rfl⟩ := rowPos o9 (n9 rfl)
      have hcx := capO o9
      have B9 := B8.trans (b9.mono z8)
      have z9 := B9.size
      have hx := OB.of o9
      clear B8 b9 n9 o9 bA B7 z7 z8
      go_wp2_with fail
      refine (l5Twin O (by omega) _).mono ?_; rintro e w10 ⟨Y, rfl, hY, b10⟩
      have HF : Hid (PoPost w (.returned (.tuple #[.slice (some ⟨gx, 0, none⟩) 1 cx, .int .i64 1, .string Y])) w10) :=
        ⟨gx, cx, [(idN 1 O, 1, O)], 1, Y, rfl, hcx, (hx.below b10).mono b10.size, one_sm O (by omega), by omega, B9.trans (b10.mono z9)⟩
      clear hx B9 z9 b10 hcx
      go_wp2_with fail
      refine bodyPost_ret (v := .tuple #[.slice (some ⟨gx, 0, none⟩) 1 cx, .int .i64 1, .string Y]) (by simp [results, Try.results5, go_sem]) rfl ?_
      exact HF.out
    | false =>
      have lt6 := s6.lt
      have z6 := B6.size
      have bA := allocBelow w6 (.cells #[.int .i64 1, .int .i64 2, .int .i64 3, .int .i64 1, .int .i64 1, .int .i64 0, .int .i64 4] 2)
      have hPk := l1Pick _ _ a n cap ((k3 + 1 + 1) + 1) w6.heap.size 7 7 (fun _ => True) (w6.alloc (.cells #[.int .i64 1, .int .i64 2, .int .i64 3, .int .i64 1, .int .i64 1, .int .i64 0, .int .i64 4] 2)) (s6.below bA) (by omega) (by omega) (by omega) (by omega) (by simp) (pick7 rfl)
      go_wp2_with fail
      refine hPk.mono ?_; rintro e w7 ⟨kd, rfl, _, s7, g7⟩
      have B7 : Below w.heap.size w w7 := (B6.trans (bA.mono z6)).grown g7 (by simp; omega) (fun j hj => by cases hj; exact Nat.le_refl _)
      have o7 := (o6.alloc _).kept g7 (.inr (by rw [ownBlock_slice]; simp; omega))
      have HF : Hid (PoPost w (.returned (.tuple #[.slice (some ⟨g1, 0, none⟩) l1.length c1, .int .i64 kd, .string Z])) w7) := ⟨g1, c1, l1, kd, Z, rfl, capO o7, OB.of o7, m1, by omega, B7⟩
      clear hPk o6 o7 B6 B7 s6 s7 g7 bA
      go_wp2_with fail
      refine bodyPost_ret (v := .tuple #[.slice (some ⟨g1, 0, none⟩) l1.length c1, .int .i64 kd, .string Z]) (by simp [results, Try.results5, go_sem]) rfl ?_
      exact HF.out
end Go.Proofs.Ytnififnogdekiaa
