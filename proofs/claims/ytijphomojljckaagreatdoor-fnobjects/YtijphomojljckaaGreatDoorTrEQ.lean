/- The contract of the program's encode, at a tree. No statement is proved here. -/
import Derived.Test.YtijphomojljckaaGreatDoorRows
import Derived.Test.YtijphomojljckaaGreatDoorLemQ
import Derived.Test.YtijphomojljckaaGreatDoorLFLemQ
import Derived.Test.YtijphomojljckaaGreatDoorInQ
import Derived.Test.YtijphomojljckaaGreatDoorComQ
import Derived.Test.YtijphomojljckaaGreatDoorHkTQ
import Derived.Test.YtijphomojljckaaGreatDoorIterQ
import Derived.Test.YtijphomojljckaaGreatDoorIdLQ
import Derived.Test.YtijphomojljckaaGreatDoorTeLQ
import Derived.Test.YtijphomojljckaaGreatDoorTrCQ
import Derived.Test.YtijphomojljckaaGreatDoorJnCQ
import Derived.Test.YtijphomojljckaaGreatDoorTrSQ
import Derived.Test.YtijphomojljckaaGreatDoorTrFQ
import Derived.Test.YtijphomojljckaaGreatDoorTrVQ
import Derived.Test.YtijphomojljckaaGreatDoorAsCQ
import Derived.Stop.Asserts
import Derived.WalkKit
import Derived.ProofKit
import Derived.Below
import Derived.WalkSpells
namespace Go.Proofs.YtijphomojljckaaGreatDoor.Te
open Go.ChangeShapes Go.WideShapes Go.ChangeAt Go.RowKit

theorem isTree (v : Value) (xT : TypeId) (w : World) : (Instr.typeAssert (.iface 54 v) xT 54 true).run Tryz.prog w = .ok (.tuple #[v, .bool true]) w := by kernel_rfl
/-- What encode answers. -/
def EN (l : List Ob) (e : Ending) : Prop :=
  (tfl l = 0 ∧ e = .returned (.tuple #[.string (trB l), .nilIface])) ∨ (¬ tfl l = 0 ∧ e = .returned (.tuple #[.string ⟨#[]⟩, .iface 78 (.agg #[.int .i64 (tfl l)])]))
theorem en_fault {l : List Ob} {c : Int} (h : tfl l = c) (hc : ¬ c = 0) : EN l (.returned (.tuple #[.string ⟨#[]⟩, .iface 78 (.agg #[.int .i64 c])])) := by
  subst h
  exact .inr ⟨hc, rfl⟩
theorem mem_trE_small {l : List Ob} (h : trE l = 0) : (trB l).size ≤ 1048576 := by
  have hm : ¬ 100 < l.length := fun h' => by rw [trE_many h'] at h; omega
  have key : ∀ n, n ≤ l.length → ∀ j, j < n → teF l j = 0 := by
    intro n
    induction n with
    | zero => intro _ j hj; omega
    | succ n ih =>
      intro hn j hj
      by_cases e : j < n
      · exact ih (by omega) j e
      · have e' : j = n := by omega
        subst e'
        by_cases hb : teF l j = 0
        · exact hb
        · rw [trE_bad hm (by omega) (ih (by omega)) hb] at h
          exact h
  have hlen := tr_len l.length (Nat.le_refl _) (fun j hj => teF_ef (key l.length (Nat.le_refl _) j hj))
  have e := trB_size (l := l) l.length
  rw [List.take_length] at e hlen
  omega

set_option maxRecDepth 20000 in
set_option maxHeartbeats 2000000 in
theorem encodeTree (a : Option Addr) (c : Nat) (l : List Ob) (w : World) (h : OB w.heap.size w a l) (hg : MwG w) (hgB : 0 < w.heap.size) (hn : l.length ≤ 1048576) :
    Calls Tryz.prog 23 #[.iface 54 (.slice a l.length c)] w fun e w' => Below w.heap.size w w' ∧ EN l e := by
  have hA := fun xT w => isTree (.slice a l.length c) xT w
  obtain ⟨W1, hW1⟩ : ∃ W, w.alloc (.cells #[.pointer none, .slice none 0 0] 97) = W := ⟨_, rfl⟩
  have b1 : Below w.heap.size w W1 := by rw [← hW1]; exact allocBelow _ _
  have hT : TB w.heap.size w.heap.size [] W1 := by rw [← hW1]; exact TB.fresh w
  have hW := writeTree w.heap.size w.heap.size a c l W1 hT b1.size (obB h b1) (hg.below b1 hgB) hgB hn
  go_enter Tryz.func23, Tryz.ntmps23
  go_wp2_with fail
  refine hW.mono ?_
  rintro e w2 ⟨b2, he⟩
  have B2 : Below w.heap.size w w2 := b1.trans b2
  rcases he with ⟨h0, rfl, T2⟩ | ⟨h0, rfl⟩
  · clear hW hT b2 b1 hW1 hA
    have hsB := mem_trE_small h0
    have hS := bString w.heap.size w.heap.size (trL l) w2 T2 B2.size
    go_wp2_with fail
    refine hS.mono ?_
    rintro e w3 ⟨rfl, T3, b3⟩
    have B3 : Below w.heap.size w w3 := B2.trans b3
    have hX := implTextFault (trB l) w3 hsB
    clear hS
    go_wp2_with fail
    refine hX.mono ?_
    rintro e w4 ⟨rfl, b4⟩
    have B4 : Below w.heap.size w w4 := B3.trans (b4.mono B3.size)
    have HT := tfl_ok h0
    obtain ⟨X, hXe⟩ : ∃ X, tf (trB l) = X := ⟨_, rfl⟩
    rw [hXe] at HT ⊢
    have HTH : Hid (tfl l = X) := HT
    clear HT hXe hX
    by_cases hX0 : X = 0
    · subst hX0
      have T4 : TB w.heap.size w.heap.size (trL l) w4 := TB.below T3 b4
      have hS := bString w.heap.size w.heap.size (trL l) w4 T4 B4.size
      clear T2 T3 b3 b4
      go_wp2_with fail
      refine hS.mono ?_
      rintro e w5 ⟨rfl, T5, b5⟩
      have B5 : Below w.heap.size w w5 := B4.trans b5
      clear hS T5 b5 T4
      go_wp2
      go_ret2
      exact ⟨B5, .inl ⟨HTH.out, rfl⟩⟩
    · have qX : (X != 0) = true := ne_beq hX0
      clear T2 T3 b3 b4
      go_wp2
      go_ret2
      exact ⟨B4, en_fault HTH.out hX0⟩
  · have HT : Hid (tfl l = trE l) := tfl_bad h0
    obtain ⟨X, hXe⟩ : ∃ X, trE l = X := ⟨_, rfl⟩
    rw [hXe] at HT h0 ⊢
    clear hW hT b2 b1 hW1 hA hXe
    go_wp2
    go_ret2
    exact ⟨B2, en_fault HT.out h0⟩

/-- The text of EncodeTree's answer. -/
def etT (l : List Ob) : ByteArray := if tfl l = 0 then trB l else ⟨#[]⟩
theorem et_ret {c d : Int} {s t : ByteArray} (h : c = d) (k : s = t) : Ending.returned (.agg #[.int .i64 c, .string s]) = .returned (.agg #[.int .i64 d, .string t]) := by rw [h, k]
theorem etT_ok {l : List Ob} (h : tfl l = 0) : etT l = trB l := if_pos h
theorem etT_no {l : List Ob} (h : ¬ tfl l = 0) : etT l = ⟨#[]⟩ := if_neg h
set_option maxRecDepth 20000 in
set_option maxHeartbeats 2000000 in
theorem implEncodeTree (a : Option Addr) (c : Nat) (l : List Ob) (w : World) (h : OB w.heap.size w a l) (hg : MwG w) (hgB : 0 < w.heap.size) (hE : ErrG w) (hn : l.length ≤ 1048576) :
    Calls Tryz.prog 7 #[.slice a l.length c] w fun e w' => e = .returned (.agg #[.int .i64 (tfl l), .string (etT l)]) ∧ Below w.heap.size w w' := by
  obtain ⟨W1, hW1⟩ : ∃ W, w.alloc (.cells #[.int .i64 0, .string ⟨#[]⟩] 30) = W := ⟨_, rfl⟩
  have b1 : Below w.heap.size w W1 := by rw [← hW1]; exact allocBelow _ _
  have r1 : Res2 W1 w.heap.size (.int .i64 0) (.string ⟨#[]⟩) := by rw [← hW1]; exact Res2.new _ _ _ _
  have zz : w.heap.size < W1.heap.size := by rw [← hW1]; simp
  have hC := encodeTree a c l W1 ((h.below b1).mono b1.size) (hg.below b1 hgB) (by omega) hn
  go_enter Tryz.func7, Tryz.ntmps7
  go_wp2_with fail
  refine hC.mono ?_
  rintro e w2 ⟨b2, he⟩
  have B2 : Below w.heap.size w w2 := b1.trans (b2.mono b1.size)
  have r2 := r1.below zz b2
  have hE2 := hE.below B2
  have z2 := b2.size
  clear hC hW1 r1 b1
  rcases he with ⟨h0, rfl⟩ | ⟨h0, rfl⟩
  · have H0 : Hid (tfl l = 0) := h0
    have H1 : Hid (etT l = trB l) := etT_ok h0
    have hD := codeOf_nil w2
    clear h0
    obtain ⟨T, hT⟩ : ∃ T, trB l = T := ⟨_, rfl⟩
    rw [hT] at H1 ⊢
    clear hT
    go_wp2_with fail
    refine hD.mono ?_
    rintro e w3 ⟨rfl, b3⟩
    have r3 := r2.below (by omega) b3
    have d0 := r3.c0
    have d1 := r3.c1
    have f0 := r3.f0
    have f1 := r3.f1
    have B3 := B2.trans (b3.mono B2.size)
    have HB : Hid (Below w.heap.size w ((w3.setCell ⟨w.heap.size, 0, none⟩ (.int .i64 0)).setCell ⟨w.heap.size, 1, none⟩ (.string T))) := below_sets B3 (Nat.le_refl _) _ _
    clear hD r2 r3 b3 b2 B2 B3
    go_wp2
    refine bodyPost_ret (v := .agg #[.int .i64 0, .string T]) (by simp [results, Tryz.results7, go_sem, d0, d1]) rfl ?_
    exact ⟨et_ret H0.out.symm H1.out.symm, HB.out⟩
  · have H1 : Hid (etT l = ⟨#[]⟩) := etT_no h0
    obtain ⟨X, hX⟩ : ∃ X, tfl l = X := ⟨_, rfl⟩
    have hD := codeOf_code X w2 hE2
    have H0 : Hid (tfl l = X) := hX
    rw [hX]
    clear h0 hX
    go_wp2_with fail
    refine hD.mono ?_
    rintro e w3 ⟨rfl, b3⟩
    have r3 := r2.below (by omega) b3
    have d0 := r3.c0
    have d1 := r3.c1
    have f0 := r3.f0
    have f1 := r3.f1
    have B3 := B2.trans (b3.mono B2.size)
    have HB : Hid (Below w.heap.size w ((w3.setCell ⟨w.heap.size, 0, none⟩ (.int .i64 X)).setCell ⟨w.heap.size, 1, none⟩ (.string ⟨#[]⟩))) := below_sets B3 (Nat.le_refl _) _ _
    clear hD r2 r3 b3 b2 B2 B3
    go_wp2
    refine bodyPost_ret (v := .agg #[.int .i64 X, .string ⟨#[]⟩]) (by simp [results, Tryz.results7, go_sem, d0, d1]) rfl ?_
    exact ⟨et_ret H0.out.symm H1.out.symm, HB.out⟩

theorem tfl_fine {l : List Ob} (h : tfl l = 0) : Fine l ∧ l.length ≤ 100 := by
  have h0 : trE l = 0 := by
    by_cases e : trE l = 0
    · exact e
    · rw [tfl_bad e] at h; exact absurd h e
  have hm : ¬ 100 < l.length := fun h' => by rw [trE_many h'] at h0; omega
  refine ⟨fun j hj => ?_, by omega⟩
  have key : ∀ n, n ≤ l.length → ∀ j, j < n → teF l j = 0 := by
    intro n
    induction n with
    | zero => intro _ j hj; omega
    | succ n ih =>
      intro hn j hj
      by_cases e : j < n
      · exact ih (by omega) j e
      · have e' : j = n := by omega
        subst e'
        by_cases hb : teF l j = 0
        · exact hb
        · rw [trE_bad hm (by omega) (ih (by omega)) hb] at h0
          exact h0
  exact teF_ef (key l.length (Nat.le_refl _) j hj)
set_option maxRecDepth 20000 in
set_option maxHeartbeats 2000000 in
theorem specEncodeTree (a : Option Addr) (c : Nat) (l : List Ob) (w : World) (h : OB w.heap.size w a l) (hn : l.length ≤ 1048576) :
    Calls Tryz.prog 17 #[.slice a l.length c] w fun e w' => e = .returned (.agg #[.int .i64 (tfl l), .string (etT l)]) ∧ Below w.heap.size w w' := by
  obtain ⟨W1, hW1⟩ : ∃ W, w.alloc (.cells #[.int .i64 0, .string ⟨#[]⟩] 30) = W := ⟨_, rfl⟩
  have b1 : Below w.heap.size w W1 := by rw [← hW1]; exact allocBelow _ _
  have r1 : Res2 W1 w.heap.size (.int .i64 0) (.string ⟨#[]⟩) := by rw [← hW1]; exact Res2.new _ _ _ _
  have zz : w.heap.size < W1.heap.size := by rw [← hW1]; simp
  have hC := specTreeFault a c l W1 ((h.below b1).mono b1.size) hn
  go_enter Tryz.func17, Tryz.ntmps17
  go_wp2_with fail
  refine hC.mono ?_
  rintro e w2 ⟨rfl, b2⟩
  have B2 : Below w.heap.size w w2 := b1.trans (b2.mono b1.size)
  have r2 := r1.below zz b2
  have z2 := b2.size
  have h2 : OB w2.heap.size w2 a l := ((h.below B2).mono (by omega))
  clear hC hW1 r1 b1
  by_cases h0 : tfl l = 0
  · have H0 : Hid (tfl l = 0) := h0
    have H1 : Hid (etT l = trB l) := etT_ok h0
    have hD := l6TreeC a c l w2 h2 (tfl_fine h0).1 (tfl_fine h0).2
    rw [h0]
    clear h0
    obtain ⟨T, hT⟩ : ∃ T, trB l = T := ⟨_, rfl⟩
    rw [hT] at H1 hD
    clear hT
    go_wp2_with fail
    refine hD.mono ?_
    rintro e w3 ⟨rfl, b3⟩
    have r3 := r2.below (by omega) b3
    have d0 := r3.c0
    have d1 := r3.c1
    have f0 := r3.f0
    have f1 := r3.f1
    have B3 := B2.trans (b3.mono B2.size)
    have HB : Hid (Below w.heap.size w ((w3.setCell ⟨w.heap.size, 0, none⟩ (.int .i64 0)).setCell ⟨w.heap.size, 1, none⟩ (.string T))) := below_sets B3 (Nat.le_refl _) _ _
    clear hD r2 r3 b3 b2 B2 B3
    go_wp2
    refine bodyPost_ret (v := .agg #[.int .i64 0, .string T]) (by simp [results, Tryz.results17, go_sem, d0, d1]) rfl ?_
    exact ⟨et_ret H0.out.symm H1.out.symm, HB.out⟩
  · have H1 : Hid (etT l = ⟨#[]⟩) := etT_no h0
    obtain ⟨X, hX⟩ : ∃ X, tfl l = X := ⟨_, rfl⟩
    have H0 : Hid (tfl l = X) := hX
    rw [hX] at h0 ⊢
    have q := ne_beq h0
    clear h0 hX
    have d0 := r2.c0
    have d1 := r2.c1
    have f0 := r2.f0
    have f1 := r2.f1
    have HB : Hid (Below w.heap.size w ((w2.setCell ⟨w.heap.size, 0, none⟩ (.int .i64 X)).setCell ⟨w.heap.size, 1, none⟩ (.string ⟨#[]⟩))) := below_sets B2 (Nat.le_refl _) _ _
    clear r2 b2 B2
    go_wp2
    refine bodyPost_ret (v := .agg #[.int .i64 X, .string ⟨#[]⟩]) (by simp [results, Tryz.results17, go_sem, d0, d1]) rfl ?_
    exact ⟨et_ret H0.out.symm H1.out.symm, HB.out⟩
end Go.Proofs.YtijphomojljckaaGreatDoor.Te
