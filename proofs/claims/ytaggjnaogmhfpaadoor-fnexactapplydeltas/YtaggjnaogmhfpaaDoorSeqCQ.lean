/- A range over an iterator that keeps its state in a box of its own (a captured variable that it writes): what the iterator owes, and the law for the loop. No statement is proved here. -/
import Derived.RangeFuncNested
import Derived.RangeFuncBound
import Derived.RangeFuncCalls
import Derived.RangeFuncLeaves
import Derived.RangeFuncBox
import Derived.WalkKit
import Derived.OwnWalkIn
import Derived.Test.YtaggjnaogmhfpaaDoorRows
namespace Go.Proofs.YtaggjnaogmhfpaaDoor
open Go.RowKit

/-- What abides a store into the iterator's box, and a draw. -/
def Bides (b : Nat) (J : List ByteArray → World → Prop) : Prop := (∀ s W v, J s W → J s (W.setCell ⟨b, 0, none⟩ v)) ∧ ∀ s W, J s W → J s W.drew
/-- An iterator that hands on the texts T, one behind the other; its boxes lie from b up to e, and it writes the box b. -/
def SeqBox (F : Fence) (n : Nat) (P : Program) (g : Nat) (lb : Array Value) (b e : Nat) (T : List ByteArray) (w : World) : Prop :=
  ∀ (l : Nat) (J Jx : List ByteArray → World → Prop) (W : World), Below w.heap.size w W → Bides b J → Bides b Jx →
    (∀ pre x W1, J pre W1 → pre ++ [x] <+: T → YieldAt F (n - 1) P l #[.string x] W1 fun d W' =>
      (d = .returned (.bool true) ∧ J (pre ++ [x]) W' ∧ ∀ k, b ≤ k → k < e → W'.heap[k]? = W1.heap[k]?) ∨ (d = .returned (.bool false) ∧ Jx (pre ++ [x]) W')) →
    J [] W → CallsIn F n P g (#[.func (.yield l) #[] #[]] ++ lb) W fun e W' => (∃ v, e = .returned v) ∧ (J T W' ∨ ∃ pre, pre <+: T ∧ Jx pre W')
/-- How a round may be left. -/
def roundLeft (B b e : Nat) (I Ix : List ByteArray → World → Prop) (xs : List ByteArray) (W : World) (d : Exit) (_ : Act) (W' : World) : Prop :=
  (d = .normal ∧ KeepsFrom B W W' ∧ (∀ k, b ≤ k → k < e → W'.heap[k]? = W.heap[k]?) ∧ I xs W') ∨ (d = .ret ∧ KeepsFrom B W W' ∧ Ix xs W')
theorem setCell_block {W : World} {b k : Nat} {v : Value} (h : k ≠ b) : (W.setCell ⟨b, 0, none⟩ v).heap[k]? = W.heap[k]? := Below.heap_setCell _ _ _ _ (by simpa using h)

theorem range_box {P : Program} {F : Fence} {n : Nat} {g : Operand} {ps : Array Tmp} {assign body : Code} {Q : Exit → Act → World → Prop} {a : Act} {w : World}
    (hro : F.round = none) (h1 : 1 ≤ n) {gf : Nat} {lb : Array Value} (hg : a.eval g = .func (.func gf) #[] lb) (hFg : F.fn gf) (eg : ∀ args w, (callFunc gf args).run P w = .ok (.enter gf args) w)
    {b e : Nat} {T : List ByteArray} (hb : b < w.heap.size) (he : e ≤ w.heap.size) (hseq : SeqBox F (n - 1) P gf lb b e T w) (hps : ps.size = 1)
    (I Ix : List ByteArray → World → Prop) (hI : OwnFrom w.heap.size I) (hIx : OwnFrom w.heap.size Ix) (hIb : Bides b I) (hXb : Bides b Ix) (h0 : I [] w) (a₁ : ByteArray → Act)
    (hassign : ∀ (l : Nat) (x : ByteArray) (W : World) (K : Act → World → Prop), K (a₁ x) W →
      assign.wpIn (F.inRound l) (n - 1 - 1) P (Exit.then K (fun _ _ _ => False)) { tmps := (ps.zip #[.string x]).foldl (fun t (p, v) => t.setIfInBounds p v) a.tmps, defers := [] } W)
    (hbody : ∀ (l : Nat) (pre : List ByteArray) (x : ByteArray) (W : World), I pre W → pre ++ [x] <+: T → body.wpIn (F.inRound l) (n - 1 - 1) P (roundLeft w.heap.size b e I Ix (pre ++ [x]) W) (a₁ x) W)
    (hdone : ∀ (D : Nat) (W : World), w.heap.size ≤ D → I T W → W.heap[D]? = some (.deferred (some [])) → Q .normal { a with defers := { target := .collected D, args := #[] } :: a.defers } W)
    (hstop : ∀ (D : Nat) (pre : List ByteArray) (W : World), w.heap.size ≤ D → Ix pre W → W.heap[D]? = some (.deferred (some [])) → Code.ret.wpIn F n P Q { a with defers := { target := .collected D, args := #[] } :: a.defers } W) :
    (Code.rangeFunc g ps assign body).wpIn F n P Q a w := by
  refine wpIn_rangeFunc fun fn hfn => ?_
  rw [hro]
  obtain ⟨s, hs⟩ : ∃ s, w.heap.size = s := ⟨_, rfl⟩
  -- the record of the loop, in each of its states
  let R : LoopState → Option Code → Loop := fun st pe => { state := st, pending := pe, fn := fn, tmps := a.tmps, params := ps, assign := assign, body := body, defers := s }
  obtain ⟨V, hV⟩ : ∃ V, (w.alloc (.deferred (some []))).alloc (.loop (R .ready none)) = V := ⟨_, rfl⟩
  have vL : V.heap[s + 1]? = some (.loop (R .ready none)) := by
    have := World.alloc_heap_new (w.alloc (.deferred (some []))) (.loop (R .ready none))
    rw [World.size_alloc, hs, hV] at this; exact this
  have vD : V.heap[s]? = some (.deferred (some [])) := by
    rw [← hV, ← hs]
    exact (Below.heap_alloc _ _ _ (by simp)).trans (World.alloc_heap_new w _)
  have vB : Below w.heap.size w V := by rw [← hV]; exact ((Below.refl _ w).alloc (Nat.le_refl _) _).alloc (by simp) _
  have vI : I [] V := by rw [← hV]; exact hI.alloc _ (hI.alloc _ h0)
  have en : (Instr.enterLoop fn a.tmps ps assign body none).run P w = .ok (s + 1, [{ target := .collected s, args := #[] }]) V := by
    rw [run_enterLoop_outer, hs, ← hV]
  refine ⟨s + 1, _, V, { target := .fn (.func gf) lb, args := #[.func (.yield (s + 1)) #[] #[]] }, V, gf, #[.func (.yield (s + 1)) #[] #[]] ++ lb, V, en, ?_, ?_, ?_, fun _ => h1, ?_⟩
  · simp only [resolve, hg]
    simp [go_sem]
  · intro f' hf'
    simp [Target.leads] at hf'
    subst hf'
    exact hFg
  · simp [invoke, go_sem, eg]
  rw [hs] at hI hIx hbody hdone hstop hb he
  refine (hseq (s + 1) (fun pre W => I pre W ∧ W.heap[s + 1]? = some (.loop (R .ready none)) ∧ W.heap[s]? = some (.deferred (some [])))
    (fun pre W => Ix pre W ∧ W.heap[s + 1]? = some (.loop (R .done (some .ret))) ∧ W.heap[s]? = some (.deferred (some []))) V vB
    ⟨fun pre W v q => ⟨hIb.1 _ _ v q.1, (setCell_block (by omega)).trans q.2.1, (setCell_block (by omega)).trans q.2.2⟩, fun pre W q => ⟨hIb.2 _ _ q.1, q.2.1, q.2.2⟩⟩
    ⟨fun pre W v q => ⟨hXb.1 _ _ v q.1, (setCell_block (by omega)).trans q.2.1, (setCell_block (by omega)).trans q.2.2⟩, fun pre W q => ⟨hXb.2 _ _ q.1, q.2.1, q.2.2⟩⟩ ?_ ⟨vI, vL, vD⟩).mono ?_
  · -- a round
    rintro pre x W ⟨qI, qL, qD⟩ hpx
    refine ⟨fn, _, assign, body, run_yield (P := P) (args := #[.string x]) qL (by simp [R, hps]), roundIn_of_wpIn hfn (hassign _ x W _ ?_)⟩
    have qlt : s + 1 < W.heap.size := (Array.getElem?_eq_some_iff.1 qL).1
    obtain ⟨X, hX⟩ : ∃ X, W.putObj (s + 1) (.loop (R .busy none)) = X := ⟨_, rfl⟩
    have xL : X.heap[s + 1]? = some (.loop (R .busy none)) := by rw [← hX]; exact World.putObj_heap_same qlt
    have xD : X.heap[s]? = some (.deferred (some [])) := by rw [← hX]; exact (World.putObj_heap_other (by omega)).trans qD
    have xb : ∀ k, b ≤ k → k < e → X.heap[k]? = W.heap[k]? := fun k _ hk => by rw [← hX]; exact World.putObj_heap_other (by omega)
    have xI : I pre X := by rw [← hX]; exact hI.putObj _ qI (by omega) qL rfl
    refine ⟨X, by rw [← hX]; exact run_beginRound qL rfl, wpIn_mono (hbody _ pre x X xI hpx) ?_⟩
    have fin : ∀ (j : Option Code) (Y : World), KeepsFrom s X Y → (Instr.endRound (s + 1) j).run P Y = .ok (.bool j.isNone) (Y.putObj (s + 1) (.loop (R (if j.isNone then .ready else .done) j))) ∧ Y.heap[s + 1]? = some (.loop (R .busy none)) ∧
        (Y.putObj (s + 1) (.loop (R (if j.isNone then .ready else .done) j))).heap[s + 1]? = some (.loop (R (if j.isNone then .ready else .done) j)) ∧ (Y.putObj (s + 1) (.loop (R (if j.isNone then .ready else .done) j))).heap[s]? = some (.deferred (some [])) := by
      intro j Y k
      have yL := k.same _ _ (by omega) xL rfl
      have yD := k.same _ _ (Nat.le_refl _) xD rfl
      exact ⟨run_endRound (P := P) j yL, yL, World.putObj_heap_same (Array.getElem?_eq_some_iff.1 yL).1, (World.putObj_heap_other (by omega)).trans yD⟩
    rintro d a3 Y (⟨rfl, k, kb, kI⟩ | ⟨rfl, k, kI⟩)
    · obtain ⟨r1, r2, r3, r4⟩ := fin none Y k
      exact ⟨_, _, r1, .inl ⟨rfl, ⟨hI.putObj _ kI (by omega) r2 rfl, r3, r4⟩, fun j h1 h2 => (World.putObj_heap_other (by omega)).trans ((kb j h1 h2).trans (xb j h1 h2))⟩⟩
    · obtain ⟨r1, r2, r3, r4⟩ := fin (some .ret) Y k
      exact ⟨_, _, r1, .inr ⟨rfl, hIx.putObj _ kI (by omega) r2 rfl, r3, r4⟩⟩
  · -- behind the iterator
    rintro d W2 ⟨⟨v, rfl⟩, (⟨qI, qL, qD⟩ | ⟨pre, _, qI, qL, qD⟩)⟩
    · exact ⟨none, _, run_endLoop (P := P) qL (by simp [R]), hdone s _ (Nat.le_refl _) (hI.putObj _ qI (by omega) qL rfl) ((World.putObj_heap_other (by omega)).trans qD)⟩
    · exact ⟨some .ret, _, run_endLoop (P := P) qL (by simp [R]), hstop s pre _ (Nat.le_refl _) (hIx.putObj _ qI (by omega) qL rfl) ((World.putObj_heap_other (by omega)).trans qD)⟩
end Go.Proofs.YtaggjnaogmhfpaaDoor
