/- The contracts of WorkText, of the specification and of the program. No statement is proved here. -/
import Derived.Test.YtlgeoaepjghdhaaRows
import Derived.Test.YtlgeoaepjghdhaaLem
import Derived.Test.YtlgeoaepjghdhaaStrs
import Derived.Test.YtlgeoaepjghdhaaDTab
import Derived.Test.YtlgeoaepjghdhaaOwn
import Derived.Test.YtlgeoaepjghdhaaFr
import Derived.Test.YtlgeoaepjghdhaaWkL
import Derived.Test.YtlgeoaepjghdhaaWkT
import Derived.Test.YtlgeoaepjghdhaaWvC
import Derived.WalkKit
import Derived.ProofKit
import Derived.Below
import Derived.WalkSpells
import Derived.Deep.QuietTactic
import Derived.BigQuiet
import Derived.Laws.Cover1
namespace Go.Proofs.Ytlgeoaepjghdhaa.Wk
open Go.ChangeShapes Go.WideShapes Go.ChangeAt Go.RowKit
theorem ret_tx {c d : Int} {s t : ByteArray} (h : c = d) (k : s = t) : Ending.returned (.agg #[.int .i64 c, .string s]) = .returned (.agg #[.int .i64 d, .string t]) := by rw [h, k]

/-- What WorkText answers. -/
def wt : List Ob → ByteArray → Int × ByteArray
  | [], _ => (4, ByteArray.empty)
  | o :: t, p => if o.1 = p then (0, o.2) else wt t p
theorem wt_hit {l : List Ob} {k : Nat} {p : ByteArray} (hk : k < l.length) (h : (l.getD k onil).1 = p) : wt (l.drop k) p = (0, (l.getD k onil).2) := by
  rw [ob_drop l k hk, wt, if_pos h]
theorem wt_miss {l : List Ob} {k : Nat} {p : ByteArray} (hk : k < l.length) (h : ¬ (l.getD k onil).1 = p) : wt (l.drop k) p = wt (l.drop (k + 1)) p := by
  rw [ob_drop l k hk, wt, if_neg h]
theorem wt_end {l : List Ob} {k : Nat} {p : ByteArray} (hk : l.length ≤ k) : wt (l.drop k) p = (4, ByteArray.empty) := by
  rw [List.drop_of_length_le hk]; rfl
set_option maxRecDepth 20000 in
set_option maxHeartbeats 2000000 in
theorem specWorkText (a : Option Addr) (c : Nat) (l : List Ob) (p : ByteArray) (w : World) (h : OB w.heap.size w a l) (hn : l.length ≤ 1048576) :
    Calls Try.prog 25 #[.slice a l.length c, .string p] w fun e w' => e = .returned (.agg #[.int .i64 (wt l p).1, .string (wt l p).2]) ∧ Below w.heap.size w w' := by
  have H0 : Hid (wt (l.drop 0) p = wt l p) := rfl
  obtain ⟨R, hR⟩ : ∃ R, wt l p = R := ⟨_, rfl⟩
  rw [hR] at H0 ⊢
  clear hR
  obtain ⟨W1, hW1⟩ : ∃ W1, w.alloc (.cells #[.int .i64 0, .string ⟨#[]⟩] 48) = W1 := ⟨_, rfl⟩
  have b1 : Below w.heap.size w W1 := by rw [← hW1]; exact allocBelow _ _
  have zW : w.heap.size < W1.heap.size := by rw [← hW1]; simp
  have r1 : Res2 W1 w.heap.size (.int .i64 0) (.string ⟨#[]⟩) := by rw [← hW1]; exact Res2.new _ _ _ _
  replace h := h.below b1
  go_enter Try.func25, Try.ntmps25
  go_wp2
  go_loopw [5] (fun i wr => ∃ k : Nat, k ≤ l.length ∧ i = .int .i64 k ∧ Below W1.heap.size W1 wr ∧ Hid (wt (l.drop k) p = R)) (fun i _ => l.length - (intOf i).toNat)
  case atStart => exact ⟨0, Nat.zero_le _, rfl, Below.refl _ _, H0⟩
  case round =>
    obtain ⟨k, hk, rfl, hbel, h0⟩ := hrel
    clear H0 hW1
    have hsz := hbel.size
    have r2 : Res2 wr w.heap.size (.int .i64 0) (.string ⟨#[]⟩) := ⟨(hbel.cell (p := ⟨w.heap.size, 0, none⟩) zW).trans r1.c0, (hbel.cell (p := ⟨w.heap.size, 1, none⟩) zW).trans r1.c1, (hbel.frozen (p := ⟨w.heap.size, 0, none⟩) zW).trans r1.f0, (hbel.frozen (p := ⟨w.heap.size, 1, none⟩) zW).trans r1.f1⟩
    have B2 : Below w.heap.size w wr := b1.trans (hbel.mono (by omega))
    have d0 := r2.c0
    have d1 := r2.c1
    have f0 := r2.f0
    have f1 := r2.f1
    by_cases hlt : k < l.length
    · have q : (k : Int) < (l.length : Int) := by omega
      obtain ⟨g, off, e, hg, c0, c1⟩ := h.below hbel k hlt
      subst e
      have hh := wt_hit (p := p) hlt
      have hm := wt_miss (p := p) hlt
      obtain ⟨C, hC⟩ : ∃ C, l.getD k onil = C := ⟨_, rfl⟩
      obtain ⟨x, y⟩ := C
      rw [hC] at c0 c1 hh hm
      simp only [] at c0 c1 hh hm
      clear hC
      by_cases e : x = p
      · have HE : Hid ((0, y) = R) := (hh e).symm.trans h0.out
        subst e
        have hb := beqSelf x
        have HB : Hid (Below w.heap.size w ((wr.setCell ⟨w.heap.size, 0, none⟩ (.int .i64 0)).setCell ⟨w.heap.size, 1, none⟩ (.string y))) := below_sets B2 (Nat.le_refl _) _ _
        clear hh hm h0
        go_wp2
        refine bodyPost_ret (v := .agg #[.int .i64 0, .string y]) (by simp [results, Try.results25, go_sem, d0, d1]) rfl ?_
        exact ⟨ret_tx (congrArg Prod.fst HE.out) (congrArg Prod.snd HE.out), HB.out⟩
      · have hb : (x.toList == p.toList) = false := beq_bytes_false e
        have HN : Hid (wt (l.drop (k + 1)) p = R) := (hm e).symm.trans h0.out
        clear hh hm h0
        go_wp2
        go_roundw
        case rel => exact ⟨k + 1, by omega, by go_num, hbel, HN⟩
        case measure => first | (simp [intOf]; omega) | simp [intOf]
    · have q : ¬ (k : Int) < (l.length : Int) := by omega
      have HE : Hid ((4, ByteArray.empty) = R) := (wt_end (by omega)).symm.trans h0.out
      have HB : Hid (Below w.heap.size w ((wr.setCell ⟨w.heap.size, 0, none⟩ (.int .i64 4)).setCell ⟨w.heap.size, 1, none⟩ (.string ⟨#[]⟩))) := below_sets B2 (Nat.le_refl _) _ _
      clear h0
      go_wp2
      refine bodyPost_ret (v := .agg #[.int .i64 4, .string ⟨#[]⟩]) (by simp [results, Try.results25, go_sem, d0, d1]) rfl ?_
      exact ⟨ret_tx (congrArg Prod.fst HE.out) (congrArg Prod.snd HE.out), HB.out⟩
set_option maxRecDepth 20000 in
set_option maxHeartbeats 2000000 in
theorem implWorkText (a : Option Addr) (c : Nat) (l : List Ob) (p : ByteArray) (w : World) (h : OB w.heap.size w a l) (hf : SmallO l) (hn : l.length ≤ 1048576) :
    Calls Try.prog 27 #[.slice a l.length c, .string p] w fun e w' => e = .returned (.agg #[.int .i64 (wt l p).1, .string (wt l p).2]) ∧ Below w.heap.size w w' := by
  have H0 : Hid (wt (l.drop 0) p = wt l p) := rfl
  obtain ⟨R, hR⟩ : ∃ R, wt l p = R := ⟨_, rfl⟩
  rw [hR] at H0 ⊢
  clear hR
  obtain ⟨W1, hW1⟩ : ∃ W1, w.alloc (.cells #[.int .i64 0, .string ⟨#[]⟩] 48) = W1 := ⟨_, rfl⟩
  have b1 : Below w.heap.size w W1 := by rw [← hW1]; exact allocBelow _ _
  have zW : w.heap.size < W1.heap.size := by rw [← hW1]; simp
  have r1 : Res2 W1 w.heap.size (.int .i64 0) (.string ⟨#[]⟩) := by rw [← hW1]; exact Res2.new _ _ _ _
  replace h := h.below b1
  go_enter Try.func27, Try.ntmps27
  go_wp2
  go_loopw [6, 9] (fun _m i wr => ∃ k : Nat, k ≤ l.length ∧ i = .int .i64 k ∧ Below W1.heap.size W1 wr ∧ Hid (wt (l.drop k) p = R)) (fun _ i _ => l.length - (intOf i).toNat)
  case atStart => exact ⟨0, Nat.zero_le _, rfl, Below.refl _ _, H0⟩
  case round =>
    obtain ⟨k, hk, rfl, hbel, h0⟩ := hrel
    clear H0 hW1
    have hsz := hbel.size
    have r2 : Res2 wr w.heap.size (.int .i64 0) (.string ⟨#[]⟩) := ⟨(hbel.cell (p := ⟨w.heap.size, 0, none⟩) zW).trans r1.c0, (hbel.cell (p := ⟨w.heap.size, 1, none⟩) zW).trans r1.c1, (hbel.frozen (p := ⟨w.heap.size, 0, none⟩) zW).trans r1.f0, (hbel.frozen (p := ⟨w.heap.size, 1, none⟩) zW).trans r1.f1⟩
    have B2 : Below w.heap.size w wr := b1.trans (hbel.mono (by omega))
    have d0 := r2.c0
    have d1 := r2.c1
    have f0 := r2.f0
    have f1 := r2.f1
    by_cases hlt : k < l.length
    · have q : (k : Int) < (l.length : Int) := by omega
      obtain ⟨g, off, e, hg, c0, c1⟩ := h.below hbel k hlt
      subst e
      have hh := wt_hit (p := p) hlt
      have hm := wt_miss (p := p) hlt
      have hs := hf _ (ob_mem l k hlt)
      obtain ⟨C, hC⟩ : ∃ C, l.getD k onil = C := ⟨_, rfl⟩
      obtain ⟨x, y⟩ := C
      rw [hC] at c0 c1 hh hm hs
      simp only [] at c0 c1 hh hm hs
      clear hC
      by_cases e : x = p
      · have HE : Hid ((0, y) = R) := (hh e).symm.trans h0.out
        subst e
        have hb := beqSelf x
        have hC := fun w => cloneS y w (by omega)
        obtain ⟨V, hV⟩ : ∃ V, wr.alloc (.cells #[.string x, .string y] 92) = V := ⟨_, rfl⟩
        have bV : Below wr.heap.size wr V := by rw [← hV]; exact allocBelow _ _
        have rV : Rs V wr.heap.size [.string x, .string y] := by rw [← hV]; exact Rs.new _ _ _
        have e0 := rV 0 _ rfl
        have e1 := rV 1 _ rfl
        have sV := bV.size
        clear hh hm h0 rV d0 d1 f0 f1
        go_wp2_with fail
        refine (hC _).mono ?_; rintro e w2 ⟨rfl, b2⟩
        have b3 : Below wr.heap.size wr w2 := bV.trans (b2.mono sV)
        have hp : w.heap.size < wr.heap.size := by omega
        have d0 := (b3.cell (p := ⟨w.heap.size, 0, none⟩) hp).trans r2.c0
        have d1 := (b3.cell (p := ⟨w.heap.size, 1, none⟩) hp).trans r2.c1
        have f0 := (b3.frozen (p := ⟨w.heap.size, 0, none⟩) hp).trans r2.f0
        have f1 := (b3.frozen (p := ⟨w.heap.size, 1, none⟩) hp).trans r2.f1
        have B4 : Below w.heap.size w w2 := B2.trans (b3.mono (by omega))
        have HB : Hid (Below w.heap.size w ((w2.setCell ⟨w.heap.size, 0, none⟩ (.int .i64 0)).setCell ⟨w.heap.size, 1, none⟩ (.string y))) := below_sets B4 (Nat.le_refl _) _ _
        clear b2 hC c0 c1 e0 e1 bV b3 B4 B2 hV
        go_wp2
        refine bodyPost_ret (v := .agg #[.int .i64 0, .string y]) (by simp [results, Try.results27, go_sem, d0, d1]) rfl ?_
        exact ⟨ret_tx (congrArg Prod.fst HE.out) (congrArg Prod.snd HE.out), HB.out⟩
      · have hb : (x.toList == p.toList) = false := beq_bytes_false e
        have HN : Hid (wt (l.drop (k + 1)) p = R) := (hm e).symm.trans h0.out
        clear hh hm h0
        go_wp2
        go_roundw
        case rel => exact ⟨k + 1, by omega, by go_num, below_step hbel hsz (allocBelow _ _), HN⟩
        case measure => first | (simp [intOf]; omega) | simp [intOf]
    · have q : ¬ (k : Int) < (l.length : Int) := by omega
      have HE : Hid ((4, ByteArray.empty) = R) := (wt_end (by omega)).symm.trans h0.out
      have HB : Hid (Below w.heap.size w ((wr.setCell ⟨w.heap.size, 0, none⟩ (.int .i64 4)).setCell ⟨w.heap.size, 1, none⟩ (.string ⟨#[]⟩))) := below_sets B2 (Nat.le_refl _) _ _
      clear h0
      go_wp2
      refine bodyPost_ret (v := .agg #[.int .i64 4, .string ⟨#[]⟩]) (by simp [results, Try.results27, go_sem, d0, d1]) rfl ?_
      exact ⟨ret_tx (congrArg Prod.fst HE.out) (congrArg Prod.snd HE.out), HB.out⟩
end Go.Proofs.Ytlgeoaepjghdhaa.Wk
