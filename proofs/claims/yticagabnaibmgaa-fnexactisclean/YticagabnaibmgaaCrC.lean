/- CommitsResult as an argument: opened, sized, made anew, compared; and IsClean of both. No statement is proved here. -/
import Derived.Test.YticagabnaibmgaaRows
import Derived.Test.YticagabnaibmgaaLem
import Derived.Test.YticagabnaibmgaaStrs
import Derived.Test.YticagabnaibmgaaDTab
import Derived.Test.YticagabnaibmgaaOwn
import Derived.Test.YticagabnaibmgaaFr
import Derived.Test.YticagabnaibmgaaHkT
import Derived.Test.YticagabnaibmgaaObL
import Derived.Test.YticagabnaibmgaaObT
import Derived.Test.YticagabnaibmgaaOpO
import Derived.Test.YticagabnaibmgaaEnL
import Derived.Test.YticagabnaibmgaaEnT
import Derived.Test.YticagabnaibmgaaOpE
import Derived.Test.YticagabnaibmgaaWkL
import Derived.Test.YticagabnaibmgaaWkT
import Derived.Test.YticagabnaibmgaaOpW
import Derived.WalkKit
import Derived.ProofKit
import Derived.Below
import Derived.WalkSpells
import Derived.Deep.Strs
import Derived.SliceStrings
import Derived.Lib.SmallJoins
set_option linter.unusedVariables false
namespace Go.Proofs.Yticagabnaibmgaa.Cr
open Go.ChangeShapes Go.WideShapes Go.ChangeAt Go.RowKit

theorem leOb : ∀ (l : List Ob) (n : Int), ¬ leftOF n l < 0 → leftOF n l ≤ n := by
  intro l
  induction l with
  | nil => intro n _; exact Int.le_refl _
  | cons o l ih =>
    intro n h
    rw [leftOF] at h ⊢
    split at h
    · omega
    · rename_i h1
      rw [if_neg h1]
      have h2 := ih _ h
      have h3 : left1 n o ≤ n := by
        unfold left1 at h1 ⊢
        split
        · rename_i q; rw [if_pos q] at h1; omega
        · rename_i q
          rw [if_neg q] at h1
          split
          · rename_i q2; rw [if_pos q2] at h1; omega
          · omega
      omega
theorem leftOb {l : List Ob} {n : Int} (h : ¬ leftO n l < 0) (hn : 0 ≤ n) : leftO n l ≤ n := by
  unfold leftO at h ⊢
  split
  · omega
  · rename_i q
    rw [if_neg q] at h
    have := leOb l _ h
    omega
theorem leEn : ∀ (l : List En.Ob) (n : Int), ¬ En.leftOF n l < 0 → En.leftOF n l ≤ n := by
  intro l
  induction l with
  | nil => intro n _; exact Int.le_refl _
  | cons o l ih =>
    intro n h
    rw [En.leftOF] at h ⊢
    split at h
    · omega
    · rename_i h1
      rw [if_neg h1]
      have h2 := ih _ h
      have h3 : En.left1 n o ≤ n := by
        unfold En.left1 at h1 ⊢
        split
        · rename_i q; rw [if_pos q] at h1; omega
        · rename_i q
          rw [if_neg q] at h1
          split
          · rename_i q2; rw [if_pos q2] at h1; omega
          · omega
      omega
theorem leftEn {l : List En.Ob} {n : Int} (h : ¬ En.leftO n l < 0) (hn : 0 ≤ n) : En.leftO n l ≤ n := by
  unfold En.leftO at h ⊢
  split
  · omega
  · rename_i q
    rw [if_neg q] at h
    have := leEn l _ h
    omega
theorem leWk : ∀ (l : List Wk.Ob) (n : Int), ¬ Wk.leftOF n l < 0 → Wk.leftOF n l ≤ n := by
  intro l
  induction l with
  | nil => intro n _; exact Int.le_refl _
  | cons o l ih =>
    intro n h
    rw [Wk.leftOF] at h ⊢
    split at h
    · omega
    · rename_i h1
      rw [if_neg h1]
      have h2 := ih _ h
      have h3 : Wk.left1 n o ≤ n := by
        unfold Wk.left1 at h1 ⊢
        split
        · rename_i q; rw [if_pos q] at h1; omega
        · rename_i q
          rw [if_neg q] at h1
          split
          · rename_i q2; rw [if_pos q2] at h1; omega
          · omega
      omega
theorem leftWk {l : List Wk.Ob} {n : Int} (h : ¬ Wk.leftO n l < 0) (hn : 0 ≤ n) : Wk.leftO n l ≤ n := by
  unfold Wk.leftO at h ⊢
  split
  · omega
  · rename_i q
    rw [if_neg q] at h
    have := leWk l _ h
    omega
theorem zcr {w w' : World} {b o : Nat} {v : Value} (h : Below w.heap.size w w') (hc : w.cell? ⟨b, o, none⟩ = some v) : w'.cell? ⟨b, o, none⟩ = some v := (Fr.ofBelow (lo := 0) (hi := 0) h).cell hc (.inr (Nat.zero_le _))
/-- The three lists, as they are read. -/
structure C3 (w : World) (a1 a2 a3 : Option Addr) (l1 : List Ob) (l2 : List En.Ob) (l3 : List Wk.Ob) : Prop where
  h1 : OB w.heap.size w a1 l1
  h2 : En.OB w.heap.size w a2 l2
  h3 : Wk.OB w.heap.size w a3 l3
theorem C3.below {w w' : World} {a1 a2 a3 : Option Addr} {l1 : List Ob} {l2 : List En.Ob} {l3 : List Wk.Ob} (h : C3 w a1 a2 a3 l1 l2 l3) (b : Below w.heap.size w w') : C3 w' a1 a2 a3 l1 l2 l3 :=
  ⟨(h.h1.below b).mono b.size, (h.h2.below b).mono b.size, (h.h3.below b).mono b.size⟩
structure F3 (l1 : List Ob) (l2 : List En.Ob) (l3 : List Wk.Ob) : Prop where
  f1 : FitsO l1
  f2 : En.FitsO l2
  f3 : Wk.FitsO l3
  n1 : l1.length ≤ 9223372036854775807
  n2 : l2.length ≤ 9223372036854775807
  n3 : l3.length ≤ 9223372036854775807
structure S3 (l1 : List Ob) (l2 : List En.Ob) (l3 : List Wk.Ob) : Prop where
  n1 : l1.length ≤ 1048576
  n2 : l2.length ≤ 1048576
  n3 : l3.length ≤ 1048576
theorem trod_struct5 {H : Type} {enc : TypeId × Value → H} {P : Program} {w : World} {base : Nat} {spare : TypeId → Bool} {held : Bool} {t : TypeId} {f0 f1 f2 f3 f4 : Field} {fuel : Nat} {cs : List Value} {x : DataW H × List MemPlace} (ht : P.underlying t = some (.struct #[f0, f1, f2, f3, f4])) (h : DataW.trod enc P w base spare held fuel t cs = some x) :
    ∃ y0 y1 y2 y3 y4 n, cs.length = P.cellsOf t ∧ DataW.trod enc P w base spare held n f0.type ((cs.drop f0.offset).take (P.cellsOf f0.type)) = some y0 ∧
      DataW.trod enc P w base spare held n f1.type ((cs.drop f1.offset).take (P.cellsOf f1.type)) = some y1 ∧ DataW.trod enc P w base spare held n f2.type ((cs.drop f2.offset).take (P.cellsOf f2.type)) = some y2 ∧
      DataW.trod enc P w base spare held n f3.type ((cs.drop f3.offset).take (P.cellsOf f3.type)) = some y3 ∧ DataW.trod enc P w base spare held n f4.type ((cs.drop f4.offset).take (P.cellsOf f4.type)) = some y4 := by
  obtain ⟨xs, n, _, rfl, hl, hlen, hf⟩ := DataW.trod_struct ht h
  match xs, hlen with
  | [y0, y1, y2, y3, y4], _ => exact ⟨y0, y1, y2, y3, y4, n, hl, by simpa using hf 0 f0 rfl, by simpa using hf 1 f1 rfl, by simpa using hf 2 f2 rfl, by simpa using hf 3 f3 rfl, by simpa using hf 4 f4 rfl⟩
theorem oneOfTake {cs : List Value} {k : Nat} {v : Value} (h : (cs.drop k).take 1 = [v]) : cs[k]? = some v := by
  have := congrArg (fun l => l[0]?) h
  simpa [List.getElem?_take, List.getElem?_drop] using this
theorem five {cs : List Value} {c0 c1 c2 c3 c4 : Value} (hl : cs.length = 5) (g0 : cs[0]? = some c0) (g1 : cs[1]? = some c1) (g2 : cs[2]? = some c2) (g3 : cs[3]? = some c3) (g4 : cs[4]? = some c4) : cs = [c0, c1, c2, c3, c4] := by
  match cs, hl with
  | [x0, x1, x2, x3, x4], _ =>
    simp at g0 g1 g2 g3 g4
    rw [g0, g1, g2, g3, g4]
theorem openCr {H : Type} {enc : TypeId × Value → H} {W : World} {n : Nat} {cs : List Value} {y : DataW H × List MemPlace}
    (h : DataW.trod enc Try.prog W 0 (fun _ => true) true n 52 cs = some y) :
    ∃ (k0 k1 : Int) (a1 a2 a3 : Option Addr) (c1 c2 c3 : Nat) (l1 : List Ob) (l2 : List En.Ob) (l3 : List Wk.Ob), cs = [.int .i64 k0, .int .i64 k1, .slice a1 l1.length c1, .slice a2 l2.length c2, .slice a3 l3.length c3] ∧ C3 W a1 a2 a3 l1 l2 l3 ∧ F3 l1 l2 l3 := by
  have hc1 : Try.prog.cellsOf 2 = 1 := by kernel_rfl
  have hc2 : Try.prog.cellsOf 48 = 1 := by kernel_rfl
  have hc3 : Try.prog.cellsOf 49 = 1 := by kernel_rfl
  have hc4 : Try.prog.cellsOf 50 = 1 := by kernel_rfl
  have hc5 : Try.prog.cellsOf 52 = 5 := by kernel_rfl
  obtain ⟨y0, y1, y2, y3, y4, m, hl, t0, t1, t2, t3, t4⟩ := trod_struct5 Try.underlying52 h
  rw [hc5] at hl
  simp only [hc1, hc2, hc3, hc4] at t0 t1 t2 t3 t4
  obtain ⟨x0, e0, _, _⟩ := DataW.trod_int Try.underlying2 t0
  obtain ⟨x1, e1, _, _⟩ := DataW.trod_int Try.underlying2 t1
  obtain ⟨a2, n2, c2, e2⟩ := Go.Joins.slice_form Try.underlying48 t2
  obtain ⟨a3, n3, c3, e3⟩ := Go.Joins.slice_form Try.underlying49 t3
  obtain ⟨a4, n4, c4, e4⟩ := Go.Joins.slice_form Try.underlying50 t4
  have g := five hl (oneOfTake e0) (oneOfTake e1) (oneOfTake e2) (oneOfTake e3) (oneOfTake e4)
  obtain ⟨l2, rfl, h2, f2, m2⟩ := openOB (enc := enc) (W := W) (a := a2) (len := n2) (cap := c2) (d := y2.1) (p := y2.2) ⟨m, by
    show DataW.trod enc Try.prog W 0 (fun _ => true) true m 48 [.slice a2 n2 c2] = some y2
    rw [← e2]; exact t2⟩
  obtain ⟨l3, rfl, h3, f3, m3⟩ := En.openOB (enc := enc) (W := W) (a := a3) (len := n3) (cap := c3) (d := y3.1) (p := y3.2) ⟨m, by
    show DataW.trod enc Try.prog W 0 (fun _ => true) true m 49 [.slice a3 n3 c3] = some y3
    rw [← e3]; exact t3⟩
  obtain ⟨l4, rfl, h4, f4, m4⟩ := Wk.openOB (enc := enc) (W := W) (a := a4) (len := n4) (cap := c4) (d := y4.1) (p := y4.2) ⟨m, by
    show DataW.trod enc Try.prog W 0 (fun _ => true) true m 50 [.slice a4 n4 c4] = some y4
    rw [← e4]; exact t4⟩
  exact ⟨x0, x1, a2, a3, a4, c2, c3, c4, l2, l3, l4, g, ⟨h2, h3, h4⟩, ⟨f2, f3, f4, m2, m3, m4⟩⟩
def SzP (l1 : List Ob) (l2 : List En.Ob) (l3 : List Wk.Ob) (w : World) (e : Ending) (w' : World) : Prop := ∃ q : Int, e = .returned (.int .i64 q) ∧ q ≤ 1048576 ∧ (0 ≤ q → S3 l1 l2 l3) ∧ Below w.heap.size w w'
set_option maxRecDepth 20000 in
set_option maxHeartbeats 2000000 in
theorem szCommitsResult (k0 k1 : Int) (a1 a2 a3 : Option Addr) (c1 c2 c3 : Nat) (l1 : List Ob) (l2 : List En.Ob) (l3 : List Wk.Ob) (w : World) (h : C3 w a1 a2 a3 l1 l2 l3) (hf : F3 l1 l2 l3) :
    Calls Try.prog 20 #[.agg #[.int .i64 k0, .int .i64 k1, .slice a1 l1.length c1, .slice a2 l2.length c2, .slice a3 l3.length c3], .int .i64 1048576] w fun e w' => SzP l1 l2 l3 w e w' := by
  obtain ⟨W1, hW1⟩ : ∃ W, w.alloc (.cells #[.int .i64 k0, .int .i64 k1, .slice a1 l1.length c1, .slice a2 l2.length c2, .slice a3 l3.length c3] 52) = W := ⟨_, rfl⟩
  have b1 : Below w.heap.size w W1 := by rw [← hW1]; exact allocBelow _ _
  have r1 : Rs W1 w.heap.size [.int .i64 k0, .int .i64 k1, .slice a1 l1.length c1, .slice a2 l2.length c2, .slice a3 l3.length c3] := by rw [← hW1]; exact Rs.new _ _ _
  have H1 := h.below b1
  have k2 := r1 2 _ rfl
  have k3 := r1 3 _ rfl
  have k4 := r1 4 _ rfl
  obtain ⟨p, hp⟩ : ∃ p, w.heap.size = p := ⟨_, rfl⟩
  have hP : Hid (w.heap.size = p) := hp
  rw [hp] at k2 k3 k4
  have hZ1 := fun W h => szObjectS a1 c1 l1 1048576 W h hf.f1 hf.n1 (by omega) (by omega)
  obtain ⟨Q1, hQ1⟩ : ∃ Q, leftO 1048576 l1 = Q := ⟨_, rfl⟩
  have m1 : ¬ Q1 < 0 → Q1 ≤ 1048576 ∧ l1.length ≤ 1048576 := fun q => by rw [← hQ1] at q ⊢; exact ⟨leftOb q (by omega), (leftO_nums q (by omega)).2⟩
  rw [hQ1] at hZ1
  clear hQ1 r1 h
  go_enter Try.func20, Try.ntmps20
  go_wp2_with fail
  refine (hZ1 _ H1.h1).mono ?_; rintro e w2 ⟨rfl, b2⟩
  have B2 := b1.trans (b2.mono b1.size)
  have H2 := H1.below b2
  replace k3 := zcr b2 k3
  replace k4 := zcr b2 k4
  clear hZ1 b2 b1 H1 k2 hW1
  by_cases q1 : Q1 < 0
  · go_wp2_with fail
    go_ret
    exact ⟨-1, rfl, by omega, fun q => absurd q (by omega), B2⟩
  obtain ⟨n1, n1'⟩ := m1 (by omega)
  have hZ2 := fun W h => En.szEntryS a2 c2 l2 Q1 W h hf.f2 hf.n2 (by omega) n1
  obtain ⟨Q2, hQ2⟩ : ∃ Q, En.leftO Q1 l2 = Q := ⟨_, rfl⟩
  have m2 : ¬ Q2 < 0 → Q2 ≤ 1048576 ∧ l2.length ≤ 1048576 := fun q => by
    rw [← hQ2] at q ⊢
    have := leftEn q (by omega)
    exact ⟨by omega, (En.leftO_nums q n1).2⟩
  rw [hQ2] at hZ2
  clear hQ2 m1
  go_wp2_with fail
  refine (hZ2 _ H2.h2).mono ?_; rintro e w3 ⟨rfl, b3⟩
  have B3 := B2.trans (b3.mono B2.size)
  have H3 := H2.below b3
  replace k4 := zcr b3 k4
  clear hZ2 b3 B2 H2 k3
  by_cases q2 : Q2 < 0
  · go_wp2_with fail
    go_ret
    exact ⟨-1, rfl, by omega, fun q => absurd q (by omega), B3⟩
  obtain ⟨n2, n2'⟩ := m2 (by omega)
  have hZ3 := fun W h => Wk.szWorkS a3 c3 l3 Q2 W h hf.f3 hf.n3 (by omega) n2
  obtain ⟨Q3, hQ3⟩ : ∃ Q, Wk.leftO Q2 l3 = Q := ⟨_, rfl⟩
  have m3 : ¬ Q3 < 0 → Q3 ≤ 1048576 ∧ l3.length ≤ 1048576 := fun q => by
    rw [← hQ3] at q ⊢
    have := leftWk q (by omega)
    exact ⟨by omega, (Wk.leftO_nums q n2).2⟩
  rw [hQ3] at hZ3
  clear hQ3 m2
  go_wp2_with fail
  refine (hZ3 _ H3.h3).mono ?_; rintro e w4 ⟨rfl, b4⟩
  have B4 := B3.trans (b4.mono B3.size)
  clear hZ3 b4 B3 H3 k4
  by_cases q3 : Q3 < 0
  · go_wp2_with fail
    go_ret
    exact ⟨-1, rfl, by omega, fun q => absurd q (by omega), B4⟩
  obtain ⟨n3, n3'⟩ := m3 (by omega)
  clear m3
  go_wp2_with fail
  go_ret
  exact ⟨Q3, rfl, n3, fun _ => ⟨n1', n2', n3'⟩, B4⟩
def ToP (k0 k1 : Int) (l1 : List Ob) (l2 : List En.Ob) (l3 : List Wk.Ob) (w : World) (e : Ending) (w' : World) : Prop := ∃ (a1 a2 a3 : Option Addr) (c1 c2 c3 : Nat), e = .returned (.agg #[.int .i64 k0, .int .i64 k1, .slice a1 l1.length c1, .slice a2 l2.length c2, .slice a3 l3.length c3]) ∧ C3 w' a1 a2 a3 l1 l2 l3 ∧ Below w.heap.size w w'
set_option maxRecDepth 20000 in
set_option maxHeartbeats 2000000 in
theorem toCommitsResult (k0 k1 : Int) (a1 a2 a3 : Option Addr) (c1 c2 c3 : Nat) (l1 : List Ob) (l2 : List En.Ob) (l3 : List Wk.Ob) (w : World) (h : C3 w a1 a2 a3 l1 l2 l3) (hs : S3 l1 l2 l3) :
    Calls Try.prog 22 #[.agg #[.int .i64 k0, .int .i64 k1, .slice a1 l1.length c1, .slice a2 l2.length c2, .slice a3 l3.length c3]] w fun e w' => ToP k0 k1 l1 l2 l3 w e w' := by
  obtain ⟨W0, hW0⟩ : ∃ W, w.alloc (.cells #[.int .i64 k0, .int .i64 k1, .slice a1 l1.length c1, .slice a2 l2.length c2, .slice a3 l3.length c3] 52) = W := ⟨_, rfl⟩
  have f0 : Rf W0 w.heap.size [.int .i64 k0, .int .i64 k1, .slice a1 l1.length c1, .slice a2 l2.length c2, .slice a3 l3.length c3] := by rw [← hW0]; exact Rf.new _ _ _
  have B0 : Below w.heap.size w W0 := by rw [← hW0]; exact allocBelow _ _
  have z0 : W0.heap.size = w.heap.size + 1 := by rw [← hW0]; simp
  obtain ⟨W1, hW1⟩ : ∃ W, W0.alloc (.cells #[.int .i64 0, .int .i64 0, .slice none 0 0, .slice none 0 0, .slice none 0 0] 59) = W := ⟨_, rfl⟩
  have f1 : Rf W1 (w.heap.size + 1) [.int .i64 0, .int .i64 0, .slice none 0 0, .slice none 0 0, .slice none 0 0] := by rw [← hW1, ← z0]; exact Rf.new _ _ _
  have b1 : Below W0.heap.size W0 W1 := by rw [← hW1]; exact allocBelow _ _
  have z1 : W1.heap.size = w.heap.size + 1 + 1 := by rw [← hW1]; simp [z0]
  obtain ⟨W2, hW2⟩ : ∃ W, W1.alloc (.cells #[.int .i64 0, .int .i64 0, .slice none 0 0, .slice none 0 0, .slice none 0 0] 59) = W := ⟨_, rfl⟩
  have f2 : Rf W2 (w.heap.size + 1 + 1) [.int .i64 0, .int .i64 0, .slice none 0 0, .slice none 0 0, .slice none 0 0] := by rw [← hW2, ← z1]; exact Rf.new _ _ _
  have b2 : Below W1.heap.size W1 W2 := by rw [← hW2]; exact allocBelow _ _
  have z2 : W2.heap.size = w.heap.size + 1 + 1 + 1 := by rw [← hW2]; simp [z1]
  replace f0 := (f0.below (by omega) b1).below (by omega) b2
  replace f1 := f1.below (by omega) b2
  have B2 : Below w.heap.size w W2 := (B0.trans (b1.mono (by omega))).trans (b2.mono (by omega))
  have p0 := f0.at_ 0 _ rfl
  have p1 := f0.at_ 1 _ rfl
  have p2 := f0.at_ 2 _ rfl
  have q0 := f2.at_ 0 _ rfl
  have q1 := f2.at_ 1 _ rfl
  have y0 := f2.fz 0
  have y1 := f2.fz 1
  clear B0 b1 b2
  go_enter Try.func22, Try.ntmps22
  go_wp2_with fail
  obtain ⟨W3, hW3⟩ : ∃ W, (W2.setCell ⟨w.heap.size + 1 + 1, 0, none⟩ (.int .i64 k0)).setCell ⟨w.heap.size + 1 + 1, 1, none⟩ (.int .i64 k1) = W := ⟨_, rfl⟩
  have h0 : Rf W3 w.heap.size [.int .i64 k0, .int .i64 k1, .slice a1 l1.length c1, .slice a2 l2.length c2, .slice a3 l3.length c3] := by rw [← hW3]; exact (f0.other (by omega) _).other (by omega) _
  have h1 : Rf W3 (w.heap.size + 1) [.int .i64 0, .int .i64 0, .slice none 0 0, .slice none 0 0, .slice none 0 0] := by rw [← hW3]; exact (f1.other (by omega) _).other (by omega) _
  have h2 : Rf W3 (w.heap.size + 1 + 1) [.int .i64 k0, .int .i64 k1, .slice none 0 0, .slice none 0 0, .slice none 0 0] := by rw [← hW3]; exact (f2.set (o := 0) (by simp) _).set (o := 1) (by simp) _
  have B3 : Below w.heap.size w W3 := by
    rw [← hW3]
    exact (B2.setCell (p := ⟨w.heap.size + 1 + 1, 0, none⟩) (by show _ ≤ w.heap.size + 1 + 1; omega) _).setCell (p := ⟨w.heap.size + 1 + 1, 1, none⟩) (by show _ ≤ w.heap.size + 1 + 1; omega) _
  have z3 : W3.heap.size = W2.heap.size := by rw [← hW3]; simp [World.setCell]
  have hz : w.heap.size + 1 + 1 < W3.heap.size := by omega
  have H3 := h.below B3
  rw [hW3]
  clear hW3 p0 p1 p2 q0 q1 y0 y1 f0 f1 f2 hW0 hW1 hW2 z3 z2 z1 z0 B2
  have h' := h
  clear h
  refine (toObjectS _ _ _ _ H3.h1 hs.n1).mono ?_; rintro e w4 ⟨rfl, o1, b4⟩
  have B4 := B3.trans (b4.mono B3.size)
  have z4 := b4.size
  replace h0 := h0.below (by omega) b4
  replace h1 := h1.below (by omega) b4
  replace h2 := h2.below (by omega) b4
  obtain ⟨g1, hg⟩ : ∃ g, W3.heap.size = g := ⟨_, rfl⟩
  have G1 : w.heap.size + 1 + 1 < g1 := by omega
  rw [hg] at o1 ⊢
  clear b4 H3 B3
  have p3 := h0.at_ 3 _ rfl
  have y2 := h2.fz 2
  have q2 := h2.at_ 2 _ rfl
  go_wp2_with fail
  obtain ⟨X1, hX⟩ : ∃ W, w4.setCell ⟨w.heap.size + 1 + 1, 2, none⟩ (.slice (some ⟨g1, 0, none⟩) l1.length l1.length) = W := ⟨_, rfl⟩
  have F5 : Fr (w.heap.size + 1 + 1) (w.heap.size + 1 + 1 + 1) w4 X1 := by rw [← hX]; exact Fr.ofGrown (grownSet w4 (w.heap.size + 1 + 1) 2 (.slice (some ⟨g1, 0, none⟩) l1.length l1.length)) (fun j hj => by cases hj; omega)
  replace o1 := F5.own o1 (fun j hj => by simp [Value.ownBlock] at hj; omega)
  have B3 : Below w.heap.size w X1 := by rw [← hX]; exact B4.setCell (p := ⟨w.heap.size + 1 + 1, 2, none⟩) (by show _ ≤ w.heap.size + 1 + 1; omega) _
  replace h0 : Rf X1 w.heap.size [.int .i64 k0, .int .i64 k1, .slice a1 l1.length c1, .slice a2 l2.length c2, .slice a3 l3.length c3] := by rw [← hX]; exact h0.other (by omega) _
  replace h1 : Rf X1 (w.heap.size + 1) [.int .i64 0, .int .i64 0, .slice none 0 0, .slice none 0 0, .slice none 0 0] := by rw [← hX]; exact h1.other (by omega) _
  replace h2 : Rf X1 (w.heap.size + 1 + 1) [.int .i64 k0, .int .i64 k1, .slice (some ⟨g1, 0, none⟩) l1.length l1.length, .slice none 0 0, .slice none 0 0] := by rw [← hX]; exact h2.set (o := 2) (by simp) _
  have z5 : X1.heap.size = w4.heap.size := by rw [← hX]; simp [World.setCell]
  have H3 := h'.below B3
  have hz : w.heap.size + 1 + 1 < X1.heap.size := by omega
  rw [hX]
  clear hX F5 B4 p3 y2 q2 z4 z5 hg
  refine (En.toEntryS _ _ _ _ H3.h2 hs.n2).mono ?_; rintro e w5 ⟨rfl, o2, b4⟩
  have B4 := B3.trans (b4.mono B3.size)
  have z4 := b4.size
  replace h0 := h0.below (by omega) b4
  replace h1 := h1.below (by omega) b4
  replace h2 := h2.below (by omega) b4
  replace o1 := o1.kept (grownOfBelow b4 none) (.inr (by simp [Value.ownBlock]))
  obtain ⟨g2, hg⟩ : ∃ g, X1.heap.size = g := ⟨_, rfl⟩
  have G2 : w.heap.size + 1 + 1 < g2 := by omega
  rw [hg] at o2 ⊢
  clear b4 H3 B3
  have p3 := h0.at_ 4 _ rfl
  have y2 := h2.fz 3
  have q2 := h2.at_ 3 _ rfl
  go_wp2_with fail
  obtain ⟨X2, hX⟩ : ∃ W, w5.setCell ⟨w.heap.size + 1 + 1, 3, none⟩ (.slice (some ⟨g2, 0, none⟩) l2.length l2.length) = W := ⟨_, rfl⟩
  have F5 : Fr (w.heap.size + 1 + 1) (w.heap.size + 1 + 1 + 1) w5 X2 := by rw [← hX]; exact Fr.ofGrown (grownSet w5 (w.heap.size + 1 + 1) 3 (.slice (some ⟨g2, 0, none⟩) l2.length l2.length)) (fun j hj => by cases hj; omega)
  replace o1 := F5.own o1 (fun j hj => by simp [Value.ownBlock] at hj; omega)
  replace o2 := F5.own o2 (fun j hj => by simp [Value.ownBlock] at hj; omega)
  have B3 : Below w.heap.size w X2 := by rw [← hX]; exact B4.setCell (p := ⟨w.heap.size + 1 + 1, 3, none⟩) (by show _ ≤ w.heap.size + 1 + 1; omega) _
  replace h0 : Rf X2 w.heap.size [.int .i64 k0, .int .i64 k1, .slice a1 l1.length c1, .slice a2 l2.length c2, .slice a3 l3.length c3] := by rw [← hX]; exact h0.other (by omega) _
  replace h1 : Rf X2 (w.heap.size + 1) [.int .i64 0, .int .i64 0, .slice none 0 0, .slice none 0 0, .slice none 0 0] := by rw [← hX]; exact h1.other (by omega) _
  replace h2 : Rf X2 (w.heap.size + 1 + 1) [.int .i64 k0, .int .i64 k1, .slice (some ⟨g1, 0, none⟩) l1.length l1.length, .slice (some ⟨g2, 0, none⟩) l2.length l2.length, .slice none 0 0] := by rw [← hX]; exact h2.set (o := 3) (by simp) _
  have z5 : X2.heap.size = w5.heap.size := by rw [← hX]; simp [World.setCell]
  have H3 := h'.below B3
  have hz : w.heap.size + 1 + 1 < X2.heap.size := by omega
  rw [hX]
  clear hX F5 B4 p3 y2 q2 z4 z5 hg
  refine (Wk.toWorkS _ _ _ _ H3.h3 hs.n3).mono ?_; rintro e w6 ⟨rfl, o3, b4⟩
  have B4 := B3.trans (b4.mono B3.size)
  have z4 := b4.size
  replace h0 := h0.below (by omega) b4
  replace h1 := h1.below (by omega) b4
  replace h2 := h2.below (by omega) b4
  replace o1 := o1.kept (grownOfBelow b4 none) (.inr (by simp [Value.ownBlock]))
  replace o2 := o2.kept (grownOfBelow b4 none) (.inr (by simp [Value.ownBlock]))
  obtain ⟨g3, hg⟩ : ∃ g, X2.heap.size = g := ⟨_, rfl⟩
  have G3 : w.heap.size + 1 + 1 < g3 := by omega
  rw [hg] at o3 ⊢
  clear b4 H3 B3
  obtain ⟨WF, hWF⟩ : ∃ W, ((((((w6.setCell ⟨w.heap.size + 1 + 1, 4, none⟩ (.slice (some ⟨g3, 0, none⟩) l3.length l3.length)).setCell ⟨w.heap.size + 1, 0, none⟩ (.int .i64 k0)).setCell ⟨w.heap.size + 1, 1, none⟩ (.int .i64 k1)).setCell ⟨w.heap.size + 1, 2, none⟩ (.slice (some ⟨g1, 0, none⟩) l1.length l1.length)).setCell ⟨w.heap.size + 1, 3, none⟩ (.slice (some ⟨g2, 0, none⟩) l2.length l2.length)).setCell ⟨w.heap.size + 1, 4, none⟩ (.slice (some ⟨g3, 0, none⟩) l3.length l3.length)) = W := ⟨_, rfl⟩
  have F6 : Fr (w.heap.size + 1) (w.heap.size + 1 + 1 + 1) w6 WF := by
    rw [← hWF]
    refine Fr.trans ?_ (Fr.ofGrown (grownTrans (grownTrans (grownTrans (grownTrans (grownSet _ (w.heap.size + 1) 0 (.int .i64 k0)) (grownSet _ (w.heap.size + 1) 1 (.int .i64 k1))) (grownSet _ (w.heap.size + 1) 2 (.slice (some ⟨g1, 0, none⟩) l1.length l1.length))) (grownSet _ (w.heap.size + 1) 3 (.slice (some ⟨g2, 0, none⟩) l2.length l2.length))) (grownSet _ (w.heap.size + 1) 4 (.slice (some ⟨g3, 0, none⟩) l3.length l3.length))) (fun j hj => by cases hj; omega))
    exact Fr.ofGrown (grownSet w6 (w.heap.size + 1 + 1) 4 (.slice (some ⟨g3, 0, none⟩) l3.length l3.length)) (fun j hj => by cases hj; omega)
  have HB : Hid (Below w.heap.size w WF) := F6.below B4 (by omega) B4.size
  have HC : Hid (C3 WF (some ⟨g1, 0, none⟩) (some ⟨g2, 0, none⟩) (some ⟨g3, 0, none⟩) l1 l2 l3) :=
    ⟨OB.of (F6.own o1 (fun j hj => by simp [Value.ownBlock] at hj; omega)), En.OB.of (F6.own o2 (fun j hj => by simp [Value.ownBlock] at hj; omega)), Wk.OB.of (F6.own o3 (fun j hj => by simp [Value.ownBlock] at hj; omega))⟩
  have HW : Hid (((((((w6.setCell ⟨w.heap.size + 1 + 1, 4, none⟩ (.slice (some ⟨g3, 0, none⟩) l3.length l3.length)).setCell ⟨w.heap.size + 1, 0, none⟩ (.int .i64 k0)).setCell ⟨w.heap.size + 1, 1, none⟩ (.int .i64 k1)).setCell ⟨w.heap.size + 1, 2, none⟩ (.slice (some ⟨g1, 0, none⟩) l1.length l1.length)).setCell ⟨w.heap.size + 1, 3, none⟩ (.slice (some ⟨g2, 0, none⟩) l2.length l2.length)).setCell ⟨w.heap.size + 1, 4, none⟩ (.slice (some ⟨g3, 0, none⟩) l3.length l3.length)) = WF) := hWF
  have q0 := h2.at_ 0 _ rfl
  have q1 := h2.at_ 1 _ rfl
  have q2 := h2.at_ 2 _ rfl
  have q3 := h2.at_ 3 _ rfl
  have q4 := h2.at_ 4 _ rfl
  have y4 := h2.fz 4
  have e0 := h1.at_ 0 _ rfl
  have v0 := h1.fz 0
  have e1 := h1.at_ 1 _ rfl
  have v1 := h1.fz 1
  have e2 := h1.at_ 2 _ rfl
  have v2 := h1.fz 2
  have e3 := h1.at_ 3 _ rfl
  have v3 := h1.fz 3
  have e4 := h1.at_ 4 _ rfl
  have v4 := h1.fz 4
  clear h0 h1 h2 o1 o2 o3 F6 B4 hWF h' z4 hg hz
  go_wp2
  refine bodyPost_ret (v := .agg #[.int .i64 k0, .int .i64 k1, .slice (some ⟨g1, 0, none⟩) l1.length l1.length, .slice (some ⟨g2, 0, none⟩) l2.length l2.length, .slice (some ⟨g3, 0, none⟩) l3.length l3.length]) (by simp [results, Try.results22, go_sem, e0, e1, e2, e3, e4]) rfl ?_
  rw [HW.out]
  exact ⟨_, _, _, _, _, _, rfl, HC.out, HB.out⟩
set_option maxRecDepth 20000 in
set_option maxHeartbeats 2000000 in
theorem eqCommitsResult (k0 k1 : Int) (a1 a2 a3 d1 d2 d3 : Option Addr) (c1 c2 c3 e1 e2 e3 : Nat) (l1 : List Ob) (l2 : List En.Ob) (l3 : List Wk.Ob) (w : World) (h : C3 w a1 a2 a3 l1 l2 l3) (h' : C3 w d1 d2 d3 l1 l2 l3) (hs : S3 l1 l2 l3) :
    Calls Try.prog 24 #[.agg #[.int .i64 k0, .int .i64 k1, .slice a1 l1.length c1, .slice a2 l2.length c2, .slice a3 l3.length c3], .agg #[.int .i64 k0, .int .i64 k1, .slice d1 l1.length e1, .slice d2 l2.length e2, .slice d3 l3.length e3]] w fun e w' => e = .returned (.bool true) ∧ Below w.heap.size w w' := by
  obtain ⟨W0, hW0⟩ : ∃ W, w.alloc (.cells #[.int .i64 k0, .int .i64 k1, .slice a1 l1.length c1, .slice a2 l2.length c2, .slice a3 l3.length c3] 59) = W := ⟨_, rfl⟩
  have r0 : Rs W0 w.heap.size [.int .i64 k0, .int .i64 k1, .slice a1 l1.length c1, .slice a2 l2.length c2, .slice a3 l3.length c3] := by rw [← hW0]; exact Rs.new _ _ _
  have b0 : Below w.heap.size w W0 := by rw [← hW0]; exact allocBelow _ _
  have z0 : w.heap.size < W0.heap.size := by rw [← hW0]; simp
  obtain ⟨W1, hW1⟩ : ∃ W, W0.alloc (.cells #[.int .i64 k0, .int .i64 k1, .slice d1 l1.length e1, .slice d2 l2.length e2, .slice d3 l3.length e3] 59) = W := ⟨_, rfl⟩
  have r1 : Rs W1 W0.heap.size [.int .i64 k0, .int .i64 k1, .slice d1 l1.length e1, .slice d2 l2.length e2, .slice d3 l3.length e3] := by rw [← hW1]; exact Rs.new _ _ _
  have b1 : Below W0.heap.size W0 W1 := by rw [← hW1]; exact allocBelow _ _
  have B1 := b0.trans (b1.mono b0.size)
  obtain ⟨p, hp⟩ : ∃ p, w.heap.size = p := ⟨_, rfl⟩
  obtain ⟨q, hq⟩ : ∃ p, W0.heap.size = p := ⟨_, rfl⟩
  rw [hp] at r0
  rw [hq] at r1
  have x0 := zcr b1 (r0 0 _ rfl)
  have x1 := zcr b1 (r0 1 _ rfl)
  have x2 := zcr b1 (r0 2 _ rfl)
  have x3 := zcr b1 (r0 3 _ rfl)
  have x4 := zcr b1 (r0 4 _ rfl)
  have y0 := r1 0 _ rfl
  have y1 := r1 1 _ rfl
  have y2 := r1 2 _ rfl
  have y3 := r1 3 _ rfl
  have y4 := r1 4 _ rfl
  have H := h.below B1
  have H' := h'.below B1
  have n0 : (k0 != k0) = false := by simp
  have n1 : (k1 != k1) = false := by simp
  clear r0 r1 b0 b1 z0 h h'
  go_enter Try.func24, Try.ntmps24
  go_wp2_with fail
  refine (eqObjectS _ _ _ _ l1 _ H.h1 H'.h1 hs.n1).mono ?_; rintro e w2 ⟨rfl, b2⟩
  have B2 := B1.trans (b2.mono B1.size)
  have H2 := H.below b2
  have H2' := H'.below b2
  replace x3 := zcr b2 x3
  replace x4 := zcr b2 x4
  replace y3 := zcr b2 y3
  replace y4 := zcr b2 y4
  clear b2 B1 H H' x0 x1 x2 y0 y1 y2 hW0 hW1 hp hq
  go_wp2_with fail
  refine (En.eqEntryS _ _ _ _ l2 _ H2.h2 H2'.h2 hs.n2).mono ?_; rintro e w3 ⟨rfl, b3⟩
  have B3 := B2.trans (b3.mono B2.size)
  have H3 := H2.below b3
  have H3' := H2'.below b3
  replace x4 := zcr b3 x4
  replace y4 := zcr b3 y4
  clear b3 B2 H2 H2' x3 y3
  go_wp2_with fail
  refine (Wk.eqWorkS _ _ _ _ l3 _ H3.h3 H3'.h3 hs.n3).mono ?_; rintro e w4 ⟨rfl, b4⟩
  have B4 := B3.trans (b4.mono B3.size)
  clear b4 B3 H3 H3' x4 y4
  go_wp2_with fail
  go_ret
  exact ⟨rfl, B4⟩
end Go.Proofs.Yticagabnaibmgaa.Cr
