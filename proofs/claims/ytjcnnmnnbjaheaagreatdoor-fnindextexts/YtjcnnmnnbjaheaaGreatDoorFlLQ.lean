/- Rows of files in memory: their cells, who owns them, and what is left of a size. No statement is proved here. -/
import Derived.Test.YtjcnnmnnbjaheaaGreatDoorRows
import Derived.Test.YtjcnnmnnbjaheaaGreatDoorLemQ
import Derived.Test.YtjcnnmnnbjaheaaGreatDoorDTabQ
import Derived.WalkKit
import Derived.ProofKit
import Derived.Below
import Derived.RangeFuncNested
import Derived.RangeFuncBound
import Derived.RangeFuncCalls
import Derived.RangeFuncLeaves
import Derived.RangeFuncBox
import Derived.OwnWalkIn
namespace Go.Proofs.YtjcnnmnnbjaheaaGreatDoor.Fl
open Go.ChangeShapes Go.WideShapes Go.ChangeAt Go.RowKit

/-- An file: its id, its kind, its data. -/
abbrev Ob := ByteArray × Int × ByteArray
def onil : Ob := (ByteArray.empty, 0, ByteArray.empty)
theorem ob_mem (l : List Ob) (k : Nat) (hk : k < l.length) : l.getD k onil ∈ l := by
  rw [List.getD, List.getElem?_eq_getElem hk]; exact List.getElem_mem hk
theorem ob_drop (l : List Ob) (k : Nat) (h : k < l.length) : l.drop k = l.getD k onil :: l.drop (k + 1) := by
  rw [List.drop_eq_getElem_cons h]; simp [List.getD, h]
theorem ob_take (l : List Ob) (k : Nat) (h : k < l.length) : l.take (k + 1) = l.take k ++ [l.getD k onil] := by
  rw [List.take_succ_eq_append_getElem h]; simp [List.getD, h]
/-- A row of cells, told by a function. -/
def rowG (f : Nat → Value) (m : Nat) : List Value := (List.range m).map f
theorem rowG_length (f : Nat → Value) (m : Nat) : (rowG f m).length = m := by simp [rowG]
theorem rowG_at (f : Nat → Value) (m j : Nat) (h : j < m) : (rowG f m)[j]? = some (f j) := by simp [rowG, h]
theorem rowG_congr {f g : Nat → Value} {m : Nat} (h : ∀ j, j < m → f j = g j) : rowG f m = rowG g m := by
  unfold rowG
  apply List.map_congr_left
  intro j hj
  exact h j (List.mem_range.1 hj)
theorem rowG_set (f : Nat → Value) (m i : Nat) (v : Value) : (rowG f m).set i v = rowG (fun j => if j = i then v else f j) m := by
  apply List.ext_getElem?
  intro j
  by_cases hj : j < m
  · rw [rowG_at _ _ _ hj]
    by_cases e : j = i
    · subst e
      rw [List.getElem?_set_self (by rw [rowG_length]; exact hj), if_pos rfl]
    · rw [List.getElem?_set_ne (by omega), rowG_at _ _ _ hj, if_neg e]
  · rw [List.getElem?_eq_none (by rw [List.length_set, rowG_length]; omega), List.getElem?_eq_none (by rw [rowG_length]; omega)]
theorem rowG_append (f : Nat → Value) (m n : Nat) : rowG f (m + n) = rowG f m ++ rowG (fun j => f (m + j)) n := by
  unfold rowG
  rw [List.range_add, List.map_append, List.map_map]
  rfl
theorem infoObj : (Tryz.prog.info? 88).map (fun i => (i.zero, i.size, i.bytes)) = some (some (.agg #[.string ⟨#[]⟩, .int .i64 0, .string ⟨#[]⟩]), 3, 40) := by kernel_rfl
/-- The cells of files. -/
def ocell (l : List Ob) (j : Nat) : Value :=
  if j % 3 = 0 then .string (l.getD (j / 3) onil).1 else if j % 3 = 1 then .int .i64 (l.getD (j / 3) onil).2.1 else .string (l.getD (j / 3) onil).2.2
theorem ocell0 (l : List Ob) (k : Nat) : ocell l (k * 3) = .string (l.getD k onil).1 := by
  unfold ocell; rw [if_pos (by omega), show k * 3 / 3 = k by omega]
theorem ocell1 (l : List Ob) (k : Nat) : ocell l (k * 3 + 1) = .int .i64 (l.getD k onil).2.1 := by
  unfold ocell; rw [if_neg (by omega), if_pos (by omega), show (k * 3 + 1) / 3 = k by omega]
theorem ocell2 (l : List Ob) (k : Nat) : ocell l (k * 3 + 2) = .string (l.getD k onil).2.2 := by
  unfold ocell; rw [if_neg (by omega), if_neg (by omega), show (k * 3 + 2) / 3 = k by omega]
def ocells (l : List Ob) : List Value := rowG (ocell l) (l.length * 3)
theorem ocells_length (l : List Ob) : (ocells l).length = l.length * 3 := rowG_length _ _
/-- Files that can be read. -/
def OB (B : Nat) (w : World) (a : Option Addr) (l : List Ob) : Prop :=
  ∀ k, k < l.length → ∃ g off, a = some ⟨g, off, none⟩ ∧ g < B ∧ w.cell? ⟨g, off + k * 3, none⟩ = some (.string (l.getD k onil).1) ∧ w.cell? ⟨g, off + k * 3 + 1, none⟩ = some (.int .i64 (l.getD k onil).2.1) ∧ w.cell? ⟨g, off + k * 3 + 2, none⟩ = some (.string (l.getD k onil).2.2)
theorem OB.fr {lo hi B : Nat} {w w' : World} {a : Option Addr} {l : List Ob} (h : OB B w a l) (hF : Fr lo hi w w') (hb : B ≤ lo ∨ hi ≤ lo) : OB B w' a l := fun k hk => by
  obtain ⟨g, off, e, hg, d0, d1, d2⟩ := h k hk
  have ho : g < lo ∨ hi ≤ g := by omega
  exact ⟨g, off, e, hg, hF.cell d0 ho, hF.cell d1 ho, hF.cell d2 ho⟩
theorem OB.below {B : Nat} {w w' : World} {a : Option Addr} {l : List Ob} (h : OB B w a l) (hb : Below w.heap.size w w') : OB B w' a l := h.fr (Fr.ofBelow (lo := 0) (hi := 0) hb) (.inr (Nat.le_refl _))
theorem OB.mono {B B' : Nat} {w : World} {a : Option Addr} {l : List Ob} (h : OB B w a l) (hb : B ≤ B') : OB B' w a l := fun k hk => by
  obtain ⟨g, off, e, hg, d⟩ := h k hk
  exact ⟨g, off, e, by omega, d⟩
theorem OB.of {w : World} {base c : Nat} {a : Option Addr} {l : List Ob} (h : w.ownsRow base 88 3 (.slice a l.length c) l.length (ocells l)) : OB w.heap.size w a l := by
  intro k hk
  rcases h.2 with ⟨h', h0⟩ | ⟨g, cap, cur, h', _, hh, _⟩
  · omega
  · simp only [Value.slice.injEq] at h'
    obtain ⟨rfl, _, rfl⟩ := h'
    have hc := h.cellAt
    refine ⟨g, 0, rfl, (Array.getElem?_eq_some_iff.1 hh).1, ?_, ?_, ?_⟩
    · rw [Nat.zero_add, hc (k * 3) (by omega), ocells, rowG_at _ _ _ (by omega), ocell0]
    · rw [Nat.zero_add, hc (k * 3 + 1) (by omega), ocells, rowG_at _ _ _ (by omega), ocell1]
    · rw [Nat.zero_add, hc (k * 3 + 2) (by omega), ocells, rowG_at _ _ _ (by omega), ocell2]
/-- Ids and data are of a size that a machine has. -/
def FitsO (l : List Ob) : Prop := ∀ o ∈ l, o.1.size ≤ 9223372036854775807 ∧ o.2.2.size ≤ 9223372036854775807
def SmallO (l : List Ob) : Prop := ∀ o ∈ l, o.1.size ≤ 1048576 ∧ o.2.2.size ≤ 1048576
/-- What is left of a size behind an file, and behind files. -/
def left1 (n : Int) (o : Ob) : Int := if n - o.1.size < 0 then -1 else if n - o.1.size - o.2.2.size < 0 then -1 else n - o.1.size - o.2.2.size
def leftOF : Int → List Ob → Int
  | n, [] => n
  | n, o :: t => if left1 n o < 0 then -1 else leftOF (left1 n o) t
def leftO (n : Int) (l : List Ob) : Int := if n - l.length < 0 then -1 else leftOF (n - l.length) l
theorem left1_nums {n : Int} {o : Ob} (h : ¬ left1 n o < 0) : left1 n o = n - o.1.size - o.2.2.size ∧ (o.1.size : Int) ≤ n ∧ (o.2.2.size : Int) ≤ n := by
  unfold left1 at h ⊢
  split at h
  · omega
  · rename_i h1
    rw [if_neg h1]
    split at h
    · omega
    · rename_i h2
      rw [if_neg h2]; omega
theorem leftOF_stop {n : Int} {o : Ob} {t : List Ob} (h : left1 n o < 0) : leftOF n (o :: t) = -1 := by rw [leftOF, if_pos h]
theorem leftOF_go {n : Int} {o : Ob} {t : List Ob} (h : ¬ left1 n o < 0) : leftOF n (o :: t) = leftOF (left1 n o) t := by rw [leftOF, if_neg h]
theorem leftOF_nums : ∀ (l : List Ob) (n : Int), ¬ leftOF n l < 0 → ∀ o ∈ l, (o.1.size : Int) ≤ n ∧ (o.2.2.size : Int) ≤ n := by
  intro l
  induction l with
  | nil => intro n _ o h; cases h
  | cons h t ih =>
    intro n hn
    by_cases hl : left1 n h < 0
    · rw [leftOF_stop hl] at hn; omega
    · rw [leftOF_go hl] at hn
      obtain ⟨e, h1, h2⟩ := left1_nums hl
      have i := ih _ hn
      rw [e] at i
      intro o ho
      rcases List.mem_cons.1 ho with rfl | ho
      · exact ⟨h1, h2⟩
      · have := i o ho; omega
theorem leftO_nums {l : List Ob} {n : Int} (h : ¬ leftO n l < 0) (hn : n ≤ 1048576) : SmallO l ∧ l.length ≤ 1048576 := by
  unfold leftO at h
  split at h
  · omega
  · rename_i h'
    refine ⟨fun o ho => ?_, by omega⟩
    have := leftOF_nums l _ h o ho
    omega
theorem leftO_bd {l : List Ob} {n : Int} (h : ¬ leftO n l < 0) : leftO n l ≤ n := by
  have key : ∀ (l : List Ob) (n : Int), ¬ leftOF n l < 0 → leftOF n l ≤ n := by
    intro l
    induction l with
    | nil => intro n _; exact Int.le_refl _
    | cons o t ih =>
      intro n hn
      by_cases hl : left1 n o < 0
      · rw [leftOF_stop hl] at hn; omega
      · rw [leftOF_go hl] at hn ⊢
        have := ih _ hn
        have := (left1_nums hl).1
        omega
  unfold leftO at h ⊢
  split at h
  · omega
  · rename_i h'
    rw [if_neg h']
    have := key l _ h
    omega
/-- A row of files while they are copied. -/
def mixO (l : List Ob) (k j : Nat) : Value := if j < k * 3 then ocell l j else if j % 3 = 1 then .int .i64 0 else .string ⟨#[]⟩
theorem mixO_zero (l : List Ob) (m : Nat) : (madeCells (Value.agg #[.string ⟨#[]⟩, .int .i64 0, .string ⟨#[]⟩]).cells m).toList = rowG (mixO l 0) m := by
  apply List.ext_getElem?
  intro j
  by_cases hj : j < m
  · rw [rowG_at _ _ _ hj]
    have h3 : j % 3 = 0 ∨ j % 3 = 1 ∨ j % 3 = 2 := by omega
    unfold mixO
    rw [if_neg (by omega)]
    rcases h3 with h | h | h <;> simp [madeCells, hj, Value.cells, h]
  · have h0 : (rowG (mixO l 0) m)[j]? = none := List.getElem?_eq_none (by rw [rowG_length]; omega)
    rw [h0]
    simp [madeCells, hj]
theorem mixO_set (l : List Ob) (k m : Nat) :
    (((rowG (mixO l k) m).set (k * 3) (.string (l.getD k onil).1)).set (k * 3 + 1) (.int .i64 (l.getD k onil).2.1)).set (k * 3 + 2) (.string (l.getD k onil).2.2) = rowG (mixO l (k + 1)) m := by
  rw [rowG_set, rowG_set, rowG_set]
  apply rowG_congr
  intro j _
  by_cases e2 : j = k * 3 + 2
  · rw [if_pos e2]; unfold mixO; rw [if_pos (by omega), e2, ocell2]
  · rw [if_neg e2]
    by_cases e1 : j = k * 3 + 1
    · rw [if_pos e1]; unfold mixO; rw [if_pos (by omega), e1, ocell1]
    · rw [if_neg e1]
      by_cases e0 : j = k * 3
      · rw [if_pos e0]; unfold mixO; rw [if_pos (by omega), e0, ocell0]
      · rw [if_neg e0]
        unfold mixO
        by_cases h : j < k * 3
        · rw [if_pos h, if_pos (by omega)]
        · have h1 : ¬ j < (k + 1) * 3 := by omega
          rw [if_neg h, if_neg h1]
theorem mixO_full (l : List Ob) : rowG (mixO l l.length) (l.length * 3) = ocells l := by
  apply rowG_congr
  intro j hj
  unfold mixO
  rw [if_pos hj]
end Go.Proofs.YtjcnnmnnbjaheaaGreatDoor.Fl
/- A range over an iterator that keeps its state in a box of its own (a captured variable that it writes): what the iterator owes, and the law for the loop. No statement is proved here. -/
namespace Go.Proofs.YtjcnnmnnbjaheaaGreatDoor
open Go.RowKit

/-- What abides a store into the iterator's box, and a draw. -/
def Bides (b : Nat) (J : List ByteArray → World → Prop) : Prop := (∀ s W v, J s W → J s (W.setCell ⟨b, 0, none⟩ v)) ∧ ∀ s W, J s W → J s W.drew
/-- An iterator that hands on the texts T, one behind the other; its boxes lie from b up to e, and it writes the box b. -/
def SeqBox (F : Fence) (n : Nat) (P : Program) (g : Nat) (lb : Array Value) (b e : Nat) (T : List ByteArray) (w : World) : Prop :=
  ∀ (l : Nat) (J Jx : List ByteArray → World → Prop) (W : World), Below w.heap.size w W → Bides b J → Bides b Jx →
    (∀ pre x W1, J pre W1 → pre ++ [x] <+: T → YieldAt F (n - 1) P l #[.string x] W1 fun d W' =>
      (d = .returned (.bool true) ∧ J (pre ++ [x]) W' ∧ ∀ k, b ≤ k → k < e → W'.heap[k]? = W1.heap[k]?) ∨ (d = .returned (.bool false) ∧ Jx (pre ++ [x]) W')) →
    J [] W → CallsIn F n P g (#[.func (.yield l) #[] #[]] ++ lb) W fun e W' => (∃ v, e = .returned v) ∧ (J T W' ∨ ∃ pre, pre <+: T ∧ Jx pre W')
/-- How a round may be left. -/
def roundLeft (B b e : Nat) (I Ix : List ByteArray → World → Prop) (xs : List ByteArray) (W : World) (d : Exit) (_ : Act) (W' : World) : Prop :=
  (d = .normal ∧ KeepsFrom B W W' ∧ (∀ k, b ≤ k → k < e → W'.heap[k]? = W.heap[k]?) ∧ I xs W') ∨ (d = .ret ∧ KeepsFrom B W W' ∧ Ix xs W')
theorem setCell_block {W : World} {b k : Nat} {v : Value} (h : k ≠ b) : (W.setCell ⟨b, 0, none⟩ v).heap[k]? = W.heap[k]? := Below.heap_setCell _ _ _ _ (by simpa using h)

theorem range_box {P : Program} {F : Fence} {n : Nat} {g : Operand} {ps : Array Tmp} {assign body : Code} {Q : Exit → Act → World → Prop} {a : Act} {w : World}
    (hro : F.round = none) (h1 : 1 ≤ n) {gf : Nat} {lb : Array Value} (hg : a.eval g = .func (.func gf) #[] lb) (hFg : F.fn gf) (eg : ∀ args w, (callFunc gf args).run P w = .ok (.enter gf args) w)
    {b e : Nat} {T : List ByteArray} (hb : b < w.heap.size) (he : e ≤ w.heap.size) (hseq : SeqBox F (n - 1) P gf lb b e T w) (hps : ps.size = 1)
    (I Ix : List ByteArray → World → Prop) (hI : OwnFrom w.heap.size I) (hIx : OwnFrom w.heap.size Ix) (hIb : Bides b I) (hXb : Bides b Ix) (h0 : I [] w) (a₁ : ByteArray → Act)
    (hassign : ∀ (l : Nat) (x : ByteArray) (W : World) (K : Act → World → Prop), K (a₁ x) W →
      assign.wpIn (F.inRound l) (n - 1 - 1) P (Exit.then K (fun _ _ _ => False)) { tmps := (ps.zip #[.string x]).foldl (fun t (p, v) => t.setIfInBounds p v) a.tmps, defers := [] } W)
    (hbody : ∀ (l : Nat) (pre : List ByteArray) (x : ByteArray) (W : World), I pre W → pre ++ [x] <+: T → body.wpIn (F.inRound l) (n - 1 - 1) P (roundLeft w.heap.size b e I Ix (pre ++ [x]) W) (a₁ x) W)
    (hdone : ∀ (D : Nat) (W : World), w.heap.size ≤ D → I T W → W.heap[D]? = some (.deferred (some [])) → Q .normal { a with defers := { target := .collected D, args := #[] } :: a.defers } W)
    (hstop : ∀ (D : Nat) (pre : List ByteArray) (W : World), w.heap.size ≤ D → Ix pre W → W.heap[D]? = some (.deferred (some [])) → Code.ret.wpIn F n P Q { a with defers := { target := .collected D, args := #[] } :: a.defers } W) :
    (Code.rangeFunc g ps assign body).wpIn F n P Q a w := by
  refine wpIn_rangeFunc fun fn hfn => ?_
  rw [hro]
  obtain ⟨s, hs⟩ : ∃ s, w.heap.size = s := ⟨_, rfl⟩
  -- the record of the loop, in each of its states
  let R : LoopState → Option Code → Loop := fun st pe => { state := st, pending := pe, fn := fn, tmps := a.tmps, params := ps, assign := assign, body := body, defers := s }
  obtain ⟨V, hV⟩ : ∃ V, (w.alloc (.deferred (some []))).alloc (.loop (R .ready none)) = V := ⟨_, rfl⟩
  have vL : V.heap[s + 1]? = some (.loop (R .ready none)) := by
    have := World.alloc_heap_new (w.alloc (.deferred (some []))) (.loop (R .ready none))
    rw [World.size_alloc, hs, hV] at this; exact this
  have vD : V.heap[s]? = some (.deferred (some [])) := by
    rw [← hV, ← hs]
    exact (Below.heap_alloc _ _ _ (by simp)).trans (World.alloc_heap_new w _)
  have vB : Below w.heap.size w V := by rw [← hV]; exact ((Below.refl _ w).alloc (Nat.le_refl _) _).alloc (by simp) _
  have vI : I [] V := by rw [← hV]; exact hI.alloc _ (hI.alloc _ h0)
  have en : (Instr.enterLoop fn a.tmps ps assign body none).run P w = .ok (s + 1, [{ target := .collected s, args := #[] }]) V := by
    rw [run_enterLoop_outer, hs, ← hV]
  refine ⟨s + 1, _, V, { target := .fn (.func gf) lb, args := #[.func (.yield (s + 1)) #[] #[]] }, V, gf, #[.func (.yield (s + 1)) #[] #[]] ++ lb, V, en, ?_, ?_, ?_, fun _ => h1, ?_⟩
  · simp only [resolve, hg]
    simp [go_sem]
  · intro f' hf'
    simp [Target.leads] at hf'
    subst hf'
    exact hFg
  · simp [invoke, go_sem, eg]
  rw [hs] at hI hIx hbody hdone hstop hb he
  refine (hseq (s + 1) (fun pre W => I pre W ∧ W.heap[s + 1]? = some (.loop (R .ready none)) ∧ W.heap[s]? = some (.deferred (some [])))
    (fun pre W => Ix pre W ∧ W.heap[s + 1]? = some (.loop (R .done (some .ret))) ∧ W.heap[s]? = some (.deferred (some []))) V vB
    ⟨fun pre W v q => ⟨hIb.1 _ _ v q.1, (setCell_block (by omega)).trans q.2.1, (setCell_block (by omega)).trans q.2.2⟩, fun pre W q => ⟨hIb.2 _ _ q.1, q.2.1, q.2.2⟩⟩
    ⟨fun pre W v q => ⟨hXb.1 _ _ v q.1, (setCell_block (by omega)).trans q.2.1, (setCell_block (by omega)).trans q.2.2⟩, fun pre W q => ⟨hXb.2 _ _ q.1, q.2.1, q.2.2⟩⟩ ?_ ⟨vI, vL, vD⟩).mono ?_
  · -- a round
    rintro pre x W ⟨qI, qL, qD⟩ hpx
    refine ⟨fn, _, assign, body, run_yield (P := P) (args := #[.string x]) qL (by simp [R, hps]), roundIn_of_wpIn hfn (hassign _ x W _ ?_)⟩
    have qlt : s + 1 < W.heap.size := (Array.getElem?_eq_some_iff.1 qL).1
    obtain ⟨X, hX⟩ : ∃ X, W.putObj (s + 1) (.loop (R .busy none)) = X := ⟨_, rfl⟩
    have xL : X.heap[s + 1]? = some (.loop (R .busy none)) := by rw [← hX]; exact World.putObj_heap_same qlt
    have xD : X.heap[s]? = some (.deferred (some [])) := by rw [← hX]; exact (World.putObj_heap_other (by omega)).trans qD
    have xb : ∀ k, b ≤ k → k < e → X.heap[k]? = W.heap[k]? := fun k _ hk => by rw [← hX]; exact World.putObj_heap_other (by omega)
    have xI : I pre X := by rw [← hX]; exact hI.putObj _ qI (by omega) qL rfl
    refine ⟨X, by rw [← hX]; exact run_beginRound qL rfl, wpIn_mono (hbody _ pre x X xI hpx) ?_⟩
    have fin : ∀ (j : Option Code) (Y : World), KeepsFrom s X Y → (Instr.endRound (s + 1) j).run P Y = .ok (.bool j.isNone) (Y.putObj (s + 1) (.loop (R (if j.isNone then .ready else .done) j))) ∧ Y.heap[s + 1]? = some (.loop (R .busy none)) ∧
        (Y.putObj (s + 1) (.loop (R (if j.isNone then .ready else .done) j))).heap[s + 1]? = some (.loop (R (if j.isNone then .ready else .done) j)) ∧ (Y.putObj (s + 1) (.loop (R (if j.isNone then .ready else .done) j))).heap[s]? = some (.deferred (some [])) := by
      intro j Y k
      have yL := k.same _ _ (by omega) xL rfl
      have yD := k.same _ _ (Nat.le_refl _) xD rfl
      exact ⟨run_endRound (P := P) j yL, yL, World.putObj_heap_same (Array.getElem?_eq_some_iff.1 yL).1, (World.putObj_heap_other (by omega)).trans yD⟩
    rintro d a3 Y (⟨rfl, k, kb, kI⟩ | ⟨rfl, k, kI⟩)
    · obtain ⟨r1, r2, r3, r4⟩ := fin none Y k
      exact ⟨_, _, r1, .inl ⟨rfl, ⟨hI.putObj _ kI (by omega) r2 rfl, r3, r4⟩, fun j h1 h2 => (World.putObj_heap_other (by omega)).trans ((kb j h1 h2).trans (xb j h1 h2))⟩⟩
    · obtain ⟨r1, r2, r3, r4⟩ := fin (some .ret) Y k
      exact ⟨_, _, r1, .inr ⟨rfl, hIx.putObj _ kI (by omega) r2 rfl, r3, r4⟩⟩
  · -- behind the iterator
    rintro d W2 ⟨⟨v, rfl⟩, (⟨qI, qL, qD⟩ | ⟨pre, _, qI, qL, qD⟩)⟩
    · exact ⟨none, _, run_endLoop (P := P) qL (by simp [R]), hdone s _ (Nat.le_refl _) (hI.putObj _ qI (by omega) qL rfl) ((World.putObj_heap_other (by omega)).trans qD)⟩
    · exact ⟨some .ret, _, run_endLoop (P := P) qL (by simp [R]), hstop s pre _ (Nat.le_refl _) (hIx.putObj _ qI (by omega) qL rfl) ((World.putObj_heap_other (by omega)).trans qD)⟩
end Go.Proofs.YtjcnnmnnbjaheaaGreatDoor
/- Rows of files, one behind the other. No statement is proved here. -/
namespace Go.Proofs.YtjcnnmnnbjaheaaGreatDoor.Fl
open Go.ChangeShapes Go.WideShapes Go.ChangeAt Go.RowKit

theorem ocell_app (l m : List Ob) (j : Nat) : ocell (l ++ m) (l.length * 3 + j) = ocell m j := by
  unfold ocell
  have e1 : (l.length * 3 + j) % 3 = j % 3 := by omega
  have e2 : (l.length * 3 + j) / 3 = l.length + j / 3 := by omega
  rw [e1, e2]
  have e3 : (l ++ m).getD (l.length + j / 3) onil = m.getD (j / 3) onil := by rw [List.getD, List.getD, List.getElem?_append_right (by omega), show l.length + j / 3 - l.length = j / 3 by omega]
  rw [e3]
theorem ocell_left (l m : List Ob) (j : Nat) (h : j < l.length * 3) : ocell (l ++ m) j = ocell l j := by
  unfold ocell
  have h3 : j / 3 < l.length := by omega
  have e3 : (l ++ m).getD (j / 3) onil = l.getD (j / 3) onil := by simp [List.getD, List.getElem?_append_left h3]
  rw [e3]
theorem ocells_app (l m : List Ob) : ocells (l ++ m) = ocells l ++ ocells m := by
  unfold ocells
  rw [List.length_append, Nat.add_mul, rowG_append]
  congr 1
  · exact rowG_congr fun j hj => ocell_left l m j hj
  · exact rowG_congr fun j _ => ocell_app l m j
theorem ocells_one (o : Ob) : ocells [o] = [.string o.1, .int .i64 o.2.1, .string o.2.2] := by
  unfold ocells rowG
  show (List.range 3).map (ocell [o]) = _
  rw [show List.range 3 = [0, 1, 2] from rfl]
  simp [ocell]
end Go.Proofs.YtjcnnmnnbjaheaaGreatDoor.Fl
