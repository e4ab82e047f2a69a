/- Texts cut at a byte: what the parts are. No statement is proved here. -/
import Derived.Test.YtkgcpndnlefkoaaGreatDoorRows
import Derived.Test.YtkgcpndnlefkoaaGreatDoorLemQ
import Derived.Test.YtkgcpndnlefkoaaGreatDoorLFLemQ
import Derived.WalkKit
import Derived.ProofKit
import Derived.RangeFuncNested
import Derived.RangeFuncBound
import Derived.RangeFuncCalls
import Derived.RangeFuncLeaves
import Derived.RangeFuncBox
import Derived.OwnWalkIn
namespace Go.Proofs.YtkgcpndnlefkoaaGreatDoor

/-- The parts of a list of bytes between the bytes c. -/
def cutL (c : UInt8) : List UInt8 → List (List UInt8)
  | [] => [[]]
  | x :: xs => if x = c then [] :: cutL c xs else match cutL c xs with
    | [] => [[x]]
    | y :: ys => (x :: y) :: ys
theorem cut_none {c : UInt8} : ∀ {l : List UInt8}, ¬ c ∈ l → cutL c l = [l]
  | [], _ => rfl
  | x :: xs, h => by
    have h1 : ¬ x = c := fun e => h (by rw [e]; exact List.mem_cons_self)
    have h2 : ¬ c ∈ xs := fun e => h (List.mem_cons_of_mem _ e)
    simp only [cutL, if_neg h1, cut_none h2]
theorem cut_at {c : UInt8} (q : List UInt8) : ∀ {p : List UInt8}, ¬ c ∈ p → cutL c (p ++ c :: q) = p :: cutL c q
  | [], _ => by simp [cutL]
  | x :: xs, h => by
    have h1 : ¬ x = c := fun e => h (by rw [e]; exact List.mem_cons_self)
    have h2 : ¬ c ∈ xs := fun e => h (List.mem_cons_of_mem _ e)
    simp only [List.cons_append, cutL, if_neg h1, cut_at q h2]
theorem cut_len (c : UInt8) : ∀ l : List UInt8, 1 ≤ (cutL c l).length ∧ (cutL c l).length ≤ l.length + 1
  | [] => by simp [cutL]
  | x :: xs => by
    have ih := cut_len c xs
    by_cases h : x = c
    · simp only [cutL, if_pos h, List.length_cons]; omega
    · simp only [cutL, if_neg h]
      cases e : cutL c xs with
      | nil => simp
      | cons y ys => rw [e] at ih; simp only [List.length_cons] at ih ⊢; omega
theorem cut_size (c : UInt8) : ∀ (l y : List UInt8), y ∈ cutL c l → y.length ≤ l.length
  | [], y, h => by simp [cutL] at h; rw [h]; simp
  | x :: xs, y, h => by
    by_cases e : x = c
    · simp only [cutL, if_pos e, List.mem_cons] at h
      rcases h with rfl | h
      · simp
      · have := cut_size c xs y h; simp only [List.length_cons]; omega
    · simp only [cutL, if_neg e] at h
      cases e2 : cutL c xs with
      | nil => rw [e2] at h; simp at h; rw [h]; simp
      | cons z zs =>
        rw [e2] at h
        have hz := cut_size c xs z (by rw [e2]; exact List.mem_cons_self)
        rcases List.mem_cons.1 h with rfl | h
        · simp only [List.length_cons]; omega
        · have := cut_size c xs y (by rw [e2]; exact List.mem_cons_of_mem _ h); simp only [List.length_cons]; omega
/-- The bytes from fr up to k. -/
def sg (s : ByteArray) (fr k : Nat) : List UInt8 := (s.data.toList.drop fr).take (k - fr)
theorem sg_byte (s : ByteArray) (k : Nat) (h : k < s.size) : s.data.toList[k]'(by rw [size_eq]; exact h) = s[k] := rfl
theorem sg_snoc (s : ByteArray) (fr k : Nat) (h1 : fr ≤ k) (h : k < s.size) : sg s fr (k + 1) = sg s fr k ++ [s[k]] := by
  unfold sg
  have hl : k - fr < (s.data.toList.drop fr).length := by rw [List.length_drop, size_eq]; omega
  have e : k + 1 - fr = (k - fr) + 1 := by omega
  rw [e, List.take_succ_eq_append_getElem hl, List.getElem_drop]
  congr 2
  rw [← sg_byte s k h]
  congr 1
  omega
def cutFrom (c : UInt8) (s : ByteArray) (k : Nat) : List ByteArray := (cutL c (s.data.toList.drop k)).map mkB
def cutOf (c : UInt8) (s : ByteArray) : List ByteArray := cutFrom c s 0
theorem mkB_sg (s : ByteArray) (fr k : Nat) : mkB (sg s fr k) = s.extract fr k := by
  apply bytes_inj2
  rw [ByteArray.toList_eq, ByteArray.toList_eq, extract_data, mkB_data]
  rfl
theorem cutFrom_last (c : UInt8) (s : ByteArray) (fr : Nat) (h : ¬ c ∈ sg s fr s.size) : cutFrom c s fr = [s.extract fr s.size] := by
  have e : s.data.toList.drop fr = sg s fr s.size := by
    unfold sg
    rw [List.take_of_length_le (by rw [List.length_drop, size_eq]; exact Nat.le_refl _)]
  unfold cutFrom
  rw [e, cut_none h, ← mkB_sg]
  rfl
theorem cutFrom_at (c : UInt8) (s : ByteArray) (fr k : Nat) (h1 : fr ≤ k) (hk : k < s.size) (h : ¬ c ∈ sg s fr k) (hc : s[k] = c) : cutFrom c s fr = s.extract fr k :: cutFrom c s (k + 1) := by
  have hl : k - fr < (s.data.toList.drop fr).length := by rw [List.length_drop, size_eq]; omega
  have e : s.data.toList.drop fr = sg s fr k ++ c :: s.data.toList.drop (k + 1) := by
    conv => lhs; rw [← List.take_append_drop (k - fr) (s.data.toList.drop fr), List.drop_eq_getElem_cons hl]
    unfold sg
    rw [List.drop_drop]
    congr 2
    · rw [List.getElem_drop, ← hc, ← sg_byte s k hk]
      congr 1
      omega
    · congr 1; omega
  unfold cutFrom
  rw [e, cut_at _ h, List.map_cons, mkB_sg]
theorem cutFrom_len (c : UInt8) (s : ByteArray) (fr : Nat) : 1 ≤ (cutFrom c s fr).length ∧ (cutFrom c s fr).length ≤ s.size - fr + 1 := by
  have := cut_len c (s.data.toList.drop fr)
  unfold cutFrom
  rw [List.length_map]
  rw [List.length_drop, size_eq] at this
  exact this
theorem cutFrom_size (c : UInt8) (s : ByteArray) (fr : Nat) : ∀ x ∈ cutFrom c s fr, x.size ≤ s.size := by
  intro x hx
  obtain ⟨y, hy, rfl⟩ := List.mem_map.1 hx
  have := cut_size c _ y hy
  rw [List.length_drop, size_eq] at this
  rw [← size_eq, mkB_data]
  omega
/-- Where the first byte c is looked for from fr on. -/
theorem idx_none {c : UInt8} {s : ByteArray} {fr : Nat} (h : Lib.indexByte (s.data.toList.drop fr) c < 0) : ¬ c ∈ sg s fr s.size := by
  intro e
  have e2 : s.data.toList.drop fr = sg s fr s.size := by
    unfold sg
    rw [List.take_of_length_le (by rw [List.length_drop, size_eq]; exact Nat.le_refl _)]
  rw [← e2] at e
  have := (indexByte_mem _ c).2 e
  omega
end Go.Proofs.YtkgcpndnlefkoaaGreatDoor
/- The contract of strings.Index at a text of one byte. No statement is proved here. -/
namespace Go.Proofs.YtkgcpndnlefkoaaGreatDoor
open Go.ChangeShapes Go.WideShapes Go.ChangeAt Go.RowKit

theorem sliteIdx (s : ByteArray) (c : Int) (w : World) :
    Calls Tryz.prog 100 #[.string s, .int .u8 c] w fun e w' => e = .returned (.int .i64 (Lib.indexByte s.data.toList c.toNat.toUInt8)) ∧ w' = w := by
  have h := idxEntry s c
  go_enter Tryz.func100, Tryz.ntmps100
  go_wp2
  go_ret
  exact ⟨rfl, rfl⟩
set_option maxRecDepth 20000 in
set_option maxHeartbeats 1000000 in
theorem sliteIndex47 (s : ByteArray) (w : World) :
    Calls Tryz.prog 103 #[.string s, .string ⟨#[47]⟩] w fun e w' => e = .returned (.int .i64 (Lib.indexByte s.data.toList 47)) ∧ w' = w := by
  have h := fun w => sliteIdx s 47 w
  have e47 : (47 : Int).toNat.toUInt8 = 47 := rfl
  rw [e47] at h
  by_cases hq : (⟨#[47]⟩ : ByteArray) = s
  · subst hq
    have hR : Hid (Lib.indexByte (⟨#[47]⟩ : ByteArray).data.toList 47 = 0) := by show _ = _; rfl
    have hb : (([47] : List UInt8) == [47]) = true := rfl
    go_enter Tryz.func103, Tryz.ntmps103
    go_wp2
    go_ret
    exact ⟨ret_int hR.out.symm, rfl⟩
  · have hb : (([47] : List UInt8) == s.toList) = false := by
      have := beq_bytes_false hq
      rwa [ByteArray.toList_eq] at this
    obtain ⟨i, hi⟩ : ∃ i, Lib.indexByte s.data.toList 47 = i := ⟨_, rfl⟩
    rw [hi] at h ⊢
    clear hi
    go_enter Tryz.func103, Tryz.ntmps103
    go_wp2_with (go_at_call 100; refine (h _).mono ?_; rintro e w' ⟨rfl, rfl⟩)
    go_ret
    exact ⟨rfl, rfl⟩
theorem index47 (s : ByteArray) (w : World) :
    Calls Tryz.prog 99 #[.string s, .string ⟨#[47]⟩] w fun e w' => e = .returned (.int .i64 (Lib.indexByte s.data.toList 47)) ∧ w' = w := by
  have h := fun w => sliteIndex47 s w
  obtain ⟨i, hi⟩ : ∃ i, Lib.indexByte s.data.toList 47 = i := ⟨_, rfl⟩
  rw [hi] at h ⊢
  clear hi
  go_enter Tryz.func99, Tryz.ntmps99
  go_wp2_with (go_at_call 103; refine (h _).mono ?_; rintro e w' ⟨rfl, rfl⟩)
  go_ret
  exact ⟨rfl, rfl⟩
end Go.Proofs.YtkgcpndnlefkoaaGreatDoor
/- A range over an iterator that keeps its state in a box of its own (a captured variable that it writes): what the iterator owes, and the law for the loop. No statement is proved here. -/
namespace Go.Proofs.YtkgcpndnlefkoaaGreatDoor
open Go.RowKit

/-- What abides a store into the iterator's box, and a draw. -/
def Bides (b : Nat) (J : List ByteArray → World → Prop) : Prop := (∀ s W v, J s W → J s (W.setCell ⟨b, 0, none⟩ v)) ∧ ∀ s W, J s W → J s W.drew
/-- An iterator that hands on the texts T, one behind the other; its boxes lie from b up to e, and it writes the box b. -/
def SeqBox (F : Fence) (n : Nat) (P : Program) (g : Nat) (lb : Array Value) (b e : Nat) (T : List ByteArray) (w : World) : Prop :=
  ∀ (l : Nat) (J Jx : List ByteArray → World → Prop) (W : World), Below w.heap.size w W → Bides b J → Bides b Jx →
    (∀ pre x W1, J pre W1 → pre ++ [x] <+: T → YieldAt F (n - 1) P l #[.string x] W1 fun d W' =>
      (d = .returned (.bool true) ∧ J (pre ++ [x]) W' ∧ ∀ k, b ≤ k → k < e → W'.heap[k]? = W1.heap[k]?) ∨ (d = .returned (.bool false) ∧ Jx (pre ++ [x]) W')) →
    J [] W → CallsIn F n P g (#[.func (.yield l) #[] #[]] ++ lb) W fun e W' => (∃ v, e = .returned v) ∧ (J T W' ∨ ∃ pre, pre <+: T ∧ Jx pre W')
/-- How a round may be left. -/
def roundLeft (B b e : Nat) (I Ix : List ByteArray → World → Prop) (xs : List ByteArray) (W : World) (d : Exit) (_ : Act) (W' : World) : Prop :=
  (d = .normal ∧ KeepsFrom B W W' ∧ (∀ k, b ≤ k → k < e → W'.heap[k]? = W.heap[k]?) ∧ I xs W') ∨ (d = .ret ∧ KeepsFrom B W W' ∧ Ix xs W')
theorem setCell_block {W : World} {b k : Nat} {v : Value} (h : k ≠ b) : (W.setCell ⟨b, 0, none⟩ v).heap[k]? = W.heap[k]? := Below.heap_setCell _ _ _ _ (by simpa using h)

theorem range_box {P : Program} {F : Fence} {n : Nat} {g : Operand} {ps : Array Tmp} {assign body : Code} {Q : Exit → Act → World → Prop} {a : Act} {w : World}
    (hro : F.round = none) (h1 : 1 ≤ n) {gf : Nat} {lb : Array Value} (hg : a.eval g = .func (.func gf) #[] lb) (hFg : F.fn gf) (eg : ∀ args w, (callFunc gf args).run P w = .ok (.enter gf args) w)
    {b e : Nat} {T : List ByteArray} (hb : b < w.heap.size) (he : e ≤ w.heap.size) (hseq : SeqBox F (n - 1) P gf lb b e T w) (hps : ps.size = 1)
    (I Ix : List ByteArray → World → Prop) (hI : OwnFrom w.heap.size I) (hIx : OwnFrom w.heap.size Ix) (hIb : Bides b I) (hXb : Bides b Ix) (h0 : I [] w) (a₁ : ByteArray → Act)
    (hassign : ∀ (l : Nat) (x : ByteArray) (W : World) (K : Act → World → Prop), K (a₁ x) W →
      assign.wpIn (F.inRound l) (n - 1 - 1) P (Exit.then K (fun _ _ _ => False)) { tmps := (ps.zip #[.string x]).foldl (fun t (p, v) => t.setIfInBounds p v) a.tmps, defers := [] } W)
    (hbody : ∀ (l : Nat) (pre : List ByteArray) (x : ByteArray) (W : World), I pre W → pre ++ [x] <+: T → body.wpIn (F.inRound l) (n - 1 - 1) P (roundLeft w.heap.size b e I Ix (pre ++ [x]) W) (a₁ x) W)
    (hdone : ∀ (D : Nat) (W : World), w.heap.size ≤ D → I T W → W.heap[D]? = some (.deferred (some [])) → Q .normal { a with defers := { target := .collected D, args := #[] } :: a.defers } W)
    (hstop : ∀ (D : Nat) (pre : List ByteArray) (W : World), w.heap.size ≤ D → Ix pre W → W.heap[D]? = some (.deferred (some [])) → Code.ret.wpIn F n P Q { a with defers := { target := .collected D, args := #[] } :: a.defers } W) :
    (Code.rangeFunc g ps assign body).wpIn F n P Q a w := by
  refine wpIn_rangeFunc fun fn hfn => ?_
  rw [hro]
  obtain ⟨s, hs⟩ : ∃ s, w.heap.size = s := ⟨_, rfl⟩
  -- the record of the loop, in each of its states
  let R : LoopState → Option Code → Loop := fun st pe => { state := st, pending := pe, fn := fn, tmps := a.tmps, params := ps, assign := assign, body := body, defers := s }
  obtain ⟨V, hV⟩ : ∃ V, (w.alloc (.deferred (some []))).alloc (.loop (R .ready none)) = V := ⟨_, rfl⟩
  have vL : V.heap[s + 1]? = some (.loop (R .ready none)) := by
    have := World.alloc_heap_new (w.alloc (.deferred (some []))) (.loop (R .ready none))
    rw [World.size_alloc, hs, hV] at this; exact this
  have vD : V.heap[s]? = some (.deferred (some [])) := by
    rw [← hV, ← hs]
    exact (Below.heap_alloc _ _ _ (by simp)).trans (World.alloc_heap_new w _)
  have vB : Below w.heap.size w V := by rw [← hV]; exact ((Below.refl _ w).alloc (Nat.le_refl _) _).alloc (by simp) _
  have vI : I [] V := by rw [← hV]; exact hI.alloc _ (hI.alloc _ h0)
  have en : (Instr.enterLoop fn a.tmps ps assign body none).run P w = .ok (s + 1, [{ target := .collected s, args := #[] }]) V := by
    rw [run_enterLoop_outer, hs, ← hV]
  refine ⟨s + 1, _, V, { target := .fn (.func gf) lb, args := #[.func (.yield (s + 1)) #[] #[]] }, V, gf, #[.func (.yield (s + 1)) #[] #[]] ++ lb, V, en, ?_, ?_, ?_, fun _ => h1, ?_⟩
  · simp only [resolve, hg]
    simp [go_sem]
  · intro f' hf'
    simp [Target.leads] at hf'
    subst hf'
    exact hFg
  · simp [invoke, go_sem, eg]
  rw [hs] at hI hIx hbody hdone hstop hb he
  refine (hseq (s + 1) (fun pre W => I pre W ∧ W.heap[s + 1]? = some (.loop (R .ready none)) ∧ W.heap[s]? = some (.deferred (some [])))
    (fun pre W => Ix pre W ∧ W.heap[s + 1]? = some (.loop (R .done (some .ret))) ∧ W.heap[s]? = some (.deferred (some []))) V vB
    ⟨fun pre W v q => ⟨hIb.1 _ _ v q.1, (setCell_block (by omega)).trans q.2.1, (setCell_block (by omega)).trans q.2.2⟩, fun pre W q => ⟨hIb.2 _ _ q.1, q.2.1, q.2.2⟩⟩
    ⟨fun pre W v q => ⟨hXb.1 _ _ v q.1, (setCell_block (by omega)).trans q.2.1, (setCell_block (by omega)).trans q.2.2⟩, fun pre W q => ⟨hXb.2 _ _ q.1, q.2.1, q.2.2⟩⟩ ?_ ⟨vI, vL, vD⟩).mono ?_
  · -- a round
    rintro pre x W ⟨qI, qL, qD⟩ hpx
    refine ⟨fn, _, assign, body, run_yield (P := P) (args := #[.string x]) qL (by simp [R, hps]), roundIn_of_wpIn hfn (hassign _ x W _ ?_)⟩
    have qlt : s + 1 < W.heap.size := (Array.getElem?_eq_some_iff.1 qL).1
    obtain ⟨X, hX⟩ : ∃ X, W.putObj (s + 1) (.loop (R .busy none)) = X := ⟨_, rfl⟩
    have xL : X.heap[s + 1]? = some (.loop (R .busy none)) := by rw [← hX]; exact World.putObj_heap_same qlt
    have xD : X.heap[s]? = some (.deferred (some [])) := by rw [← hX]; exact (World.putObj_heap_other (by omega)).trans qD
    have xb : ∀ k, b ≤ k → k < e → X.heap[k]? = W.heap[k]? := fun k _ hk => by rw [← hX]; exact World.putObj_heap_other (by omega)
    have xI : I pre X := by rw [← hX]; exact hI.putObj _ qI (by omega) qL rfl
    refine ⟨X, by rw [← hX]; exact run_beginRound qL rfl, wpIn_mono (hbody _ pre x X xI hpx) ?_⟩
    have fin : ∀ (j : Option Code) (Y : World), KeepsFrom s X Y → (Instr.endRound (s + 1) j).run P Y = .ok (.bool j.isNone) (Y.putObj (s + 1) (.loop (R (if j.isNone then .ready else .done) j))) ∧ Y.heap[s + 1]? = some (.loop (R .busy none)) ∧
        (Y.putObj (s + 1) (.loop (R (if j.isNone then .ready else .done) j))).heap[s + 1]? = some (.loop (R (if j.isNone then .ready else .done) j)) ∧ (Y.putObj (s + 1) (.loop (R (if j.isNone then .ready else .done) j))).heap[s]? = some (.deferred (some [])) := by
      intro j Y k
      have yL := k.same _ _ (by omega) xL rfl
      have yD := k.same _ _ (Nat.le_refl _) xD rfl
      exact ⟨run_endRound (P := P) j yL, yL, World.putObj_heap_same (Array.getElem?_eq_some_iff.1 yL).1, (World.putObj_heap_other (by omega)).trans yD⟩
    rintro d a3 Y (⟨rfl, k, kb, kI⟩ | ⟨rfl, k, kI⟩)
    · obtain ⟨r1, r2, r3, r4⟩ := fin none Y k
      exact ⟨_, _, r1, .inl ⟨rfl, ⟨hI.putObj _ kI (by omega) r2 rfl, r3, r4⟩, fun j h1 h2 => (World.putObj_heap_other (by omega)).trans ((kb j h1 h2).trans (xb j h1 h2))⟩⟩
    · obtain ⟨r1, r2, r3, r4⟩ := fin (some .ret) Y k
      exact ⟨_, _, r1, .inr ⟨rfl, hIx.putObj _ kI (by omega) r2 rfl, r3, r4⟩⟩
  · -- behind the iterator
    rintro d W2 ⟨⟨v, rfl⟩, (⟨qI, qL, qD⟩ | ⟨pre, _, qI, qL, qD⟩)⟩
    · exact ⟨none, _, run_endLoop (P := P) qL (by simp [R]), hdone s _ (Nat.le_refl _) (hI.putObj _ qI (by omega) qL rfl) ((World.putObj_heap_other (by omega)).trans qD)⟩
    · exact ⟨some .ret, _, run_endLoop (P := P) qL (by simp [R]), hstop s pre _ (Nat.le_refl _) (hIx.putObj _ qI (by omega) qL rfl) ((World.putObj_heap_other (by omega)).trans qD)⟩
end Go.Proofs.YtkgcpndnlefkoaaGreatDoor
