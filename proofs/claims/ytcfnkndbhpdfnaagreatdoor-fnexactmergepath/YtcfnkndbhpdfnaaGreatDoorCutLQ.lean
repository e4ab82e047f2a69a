/- Texts cut at a byte: what the parts are. No statement is proved here. -/
import Derived.Test.YtcfnkndbhpdfnaaGreatDoorLemQ
import Derived.RangeFuncNested
import Derived.RangeFuncBound
import Derived.RangeFuncCalls
import Derived.RangeFuncLeaves
import Derived.RangeFuncBox
import Derived.OwnWalkIn
import Derived.Shelf.Abstract
import Derived.Shelf.RegionOpen
import Derived.TacticsInMore
import Derived.LoopNIn
import Derived.LoopIn
namespace Go.Proofs.YtcfnkndbhpdfnaaGreatDoor
def cutL (c : UInt8) : List UInt8 -> List (List UInt8)
 | [] => [[]]
 | x :: xs => if x = c then [] :: cutL c xs else match cutL c xs with
  | [] => [[x]]
  | y :: ys => (x :: y) :: ys
theorem cut_none {c : UInt8} : ∀ {l : List UInt8}, ¬ c ∈ l -> cutL c l = [l]
 | [], _ => rfl
 | x :: xs, h => by
  have h1 : ¬ x = c := fun e => h (by rw [e]; exact List.mem_cons_self)
  have h2 : ¬ c ∈ xs := fun e => h (List.mem_cons_of_mem _ e)
  simp only [cutL, if_neg h1, cut_none h2]
theorem cut_at {c : UInt8} (q : List UInt8) : ∀ {p : List UInt8}, ¬ c ∈ p -> cutL c (p ++ c :: q) = p :: cutL c q
 | [], _ => by simp [cutL]
 | x :: xs, h => by
  have h1 : ¬ x = c := fun e => h (by rw [e]; exact List.mem_cons_self)
  have h2 : ¬ c ∈ xs := fun e => h (List.mem_cons_of_mem _ e)
  simp only [List.cons_append, cutL, if_neg h1, cut_at q h2]
theorem cut_len (c : UInt8) : ∀ l : List UInt8, 1 <= (cutL c l).length /\ (cutL c l).length <= l.length + 1
 | [] => by simp [cutL]
 | x :: xs => by
  have ih := cut_len c xs
  by_cases h : x = c
  ·simp only [cutL, if_pos h, List.length_cons]; omega
  ·simp only [cutL, if_neg h]
   cases e : cutL c xs with
   | nil => simp
   | cons y ys => rw [e] at ih; simp only [List.length_cons] at ih ⊢; omega
theorem cut_size (c : UInt8) : ∀ (l y : List UInt8), y ∈ cutL c l -> y.length <= l.length
 | [], y, h => by simp [cutL] at h; rw [h]; simp
 | x :: xs, y, h => by
  by_cases e : x = c
  ·simp only [cutL, if_pos e, List.mem_cons] at h
   rcases h with rfl | h
   ·simp
   ·have := cut_size c xs y h; simp only [List.length_cons]; omega
  ·simp only [cutL, if_neg e] at h
   cases e2 : cutL c xs with
   | nil => rw [e2] at h; simp at h; rw [h]; simp
   | cons z zs =>
    rw [e2] at h
    have hz := cut_size c xs z (by rw [e2]; exact List.mem_cons_self)
    rcases List.mem_cons.1 h with rfl | h
    ·simp only [List.length_cons]; omega
    ·have := cut_size c xs y (by rw [e2]; exact List.mem_cons_of_mem _ h); simp only [List.length_cons]; omega
def sg (s : ByteArray) (fr k : Nat) : List UInt8 := (s.data.toList.drop fr).take (k - fr)
theorem sg_byte (s : ByteArray) (k : Nat) (h : k < s.size) : s.data.toList[k]'(by rw [size_eq]; exact h) = s[k] := rfl
theorem sg_snoc (s : ByteArray) (fr k : Nat) (h1 : fr <= k) (h : k < s.size) : sg s fr (k + 1) = sg s fr k ++ [s[k]] := by
 unfold sg
 have hl : k - fr < (s.data.toList.drop fr).length := by rw [List.length_drop, size_eq]; omega
 have e : k + 1 - fr = (k - fr) + 1 := by omega
 rw [e, List.take_succ_eq_append_getElem hl, List.getElem_drop]
 congr 2
 rw [<- sg_byte s k h]
 congr 1
 omega
def cutFrom (c : UInt8) (s : ByteArray) (k : Nat) : List ByteArray := (cutL c (s.data.toList.drop k)).map mkB
def cutOf (c : UInt8) (s : ByteArray) : List ByteArray := cutFrom c s 0
theorem mkB_sg (s : ByteArray) (fr k : Nat) : mkB (sg s fr k) = s.extract fr k := by
 apply bytes_inj2
 rw [ByteArray.toList_eq, ByteArray.toList_eq, extract_data, mkB_data]
 rfl
theorem cutFrom_last (c : UInt8) (s : ByteArray) (fr : Nat) (h : ¬ c ∈ sg s fr s.size) : cutFrom c s fr = [s.extract fr s.size] := by
 have e : s.data.toList.drop fr = sg s fr s.size := by
  unfold sg
  rw [List.take_of_length_le (by rw [List.length_drop, size_eq]; exact Nat.le_refl _)]
 unfold cutFrom
 rw [e, cut_none h, <- mkB_sg]
 rfl
theorem cutFrom_at (c : UInt8) (s : ByteArray) (fr k : Nat) (h1 : fr <= k) (hk : k < s.size) (h : ¬ c ∈ sg s fr k) (hc : s[k] = c) : cutFrom c s fr = s.extract fr k :: cutFrom c s (k + 1) := by
 have hl : k - fr < (s.data.toList.drop fr).length := by rw [List.length_drop, size_eq]; omega
 have e : s.data.toList.drop fr = sg s fr k ++ c :: s.data.toList.drop (k + 1) := by
  conv => lhs; rw [<- List.take_append_drop (k - fr) (s.data.toList.drop fr), List.drop_eq_getElem_cons hl]
  unfold sg
  rw [List.drop_drop]
  congr 2
  ·rw [List.getElem_drop, <- hc, <- sg_byte s k hk]
   congr 1
   omega
  ·congr 1; omega
 unfold cutFrom
 rw [e, cut_at _ h, List.map_cons, mkB_sg]
theorem cutFrom_len (c : UInt8) (s : ByteArray) (fr : Nat) : 1 <= (cutFrom c s fr).length /\ (cutFrom c s fr).length <= s.size - fr + 1 := by
 have := cut_len c (s.data.toList.drop fr)
 unfold cutFrom
 rw [List.length_map]
 rw [List.length_drop, size_eq] at this
 exact this
theorem cutFrom_size (c : UInt8) (s : ByteArray) (fr : Nat) : ∀ x ∈ cutFrom c s fr, x.size <= s.size := by
 intro x hx
 obtain ⟨y, hy, rfl⟩ := List.mem_map.1 hx
 have := cut_size c _ y hy
 rw [List.length_drop, size_eq] at this
 rw [<- size_eq, mkB_data]
 omega
theorem idx_none {c : UInt8} {s : ByteArray} {fr : Nat} (h : Lib.indexByte (s.data.toList.drop fr) c < 0) : ¬ c ∈ sg s fr s.size := by
 intro e
 have e2 : s.data.toList.drop fr = sg s fr s.size := by
  unfold sg
  rw [List.take_of_length_le (by rw [List.length_drop, size_eq]; exact Nat.le_refl _)]
 rw [<- e2] at e
 have := (indexByte_mem _ c).2 e
 omega
end Go.Proofs.YtcfnkndbhpdfnaaGreatDoor
namespace Go.Proofs.YtcfnkndbhpdfnaaGreatDoor
open Go.ChangeShapes Go.WideShapes Go.ChangeAt Go.RowKit
theorem sliteIdx (s : ByteArray) (c : Int) (w : World) :
  Calls Tryz.prog 131 #[.string s, .int .u8 c] w fun e w' => e = .returned (.int .i64 (Lib.indexByte s.data.toList c.toNat.toUInt8)) /\ w' = w := by
 have h := idxEntry s c
 go_enter Tryz.func131, Tryz.ntmps131
 go_wp2
 go_ret
 exact ⟨rfl, rfl⟩
set_option maxRecDepth 20000 in
set_option maxHeartbeats 1000000 in
theorem sliteIndex47 (s : ByteArray) (w : World) :
  Calls Tryz.prog 171 #[.string s, .string ⟨#[47]⟩] w fun e w' => e = .returned (.int .i64 (Lib.indexByte s.data.toList 47)) /\ w' = w := by
 have h := fun w => sliteIdx s 47 w
 have e47 : (47 : Int).toNat.toUInt8 = 47 := rfl
 rw [e47] at h
 by_cases hq : (⟨#[47]⟩ : ByteArray) = s
 ·subst hq
  have hR : Hid (Lib.indexByte (⟨#[47]⟩ : ByteArray).data.toList 47 = 0) := by show _ = _; rfl
  have hb : (([47] : List UInt8) == [47]) = true := rfl
  go_enter Tryz.func171, Tryz.ntmps171
  go_wp2
  go_ret
  exact ⟨ret_int hR.out.symm, rfl⟩
 ·have hb : (([47] : List UInt8) == s.toList) = false := by
   have := beq_bytes_false hq
   rwa [ByteArray.toList_eq] at this
  obtain ⟨i, hi⟩ : ∃ i, Lib.indexByte s.data.toList 47 = i := ⟨_, rfl⟩
  rw [hi] at h ⊢
  clear hi
  go_enter Tryz.func171, Tryz.ntmps171
  go_wp2_with (go_at_call 131; refine (h _).mono ?_; rintro e w' ⟨rfl, rfl⟩)
  go_ret
  exact ⟨rfl, rfl⟩
theorem index47 (s : ByteArray) (w : World) :
  Calls Tryz.prog 152 #[.string s, .string ⟨#[47]⟩] w fun e w' => e = .returned (.int .i64 (Lib.indexByte s.data.toList 47)) /\ w' = w := by
 have h := fun w => sliteIndex47 s w
 obtain ⟨i, hi⟩ : ∃ i, Lib.indexByte s.data.toList 47 = i := ⟨_, rfl⟩
 rw [hi] at h ⊢
 clear hi
 go_enter Tryz.func152, Tryz.ntmps152
 go_wp2_with (go_at_call 171; refine (h _).mono ?_; rintro e w' ⟨rfl, rfl⟩)
 go_ret
 exact ⟨rfl, rfl⟩
end Go.Proofs.YtcfnkndbhpdfnaaGreatDoor
namespace Go.Proofs.YtcfnkndbhpdfnaaGreatDoor
open Go.RowKit
def Bides (b : Nat) (J : List ByteArray -> World -> Prop) : Prop := (∀ s W v, J s W -> J s (W.setCell ⟨b, 0, none⟩ v)) /\ ∀ s W, J s W -> J s W.drew
def SeqBox (F : Fence) (n : Nat) (P : Program) (g : Nat) (lb : Array Value) (b e : Nat) (T : List ByteArray) (w : World) : Prop :=
 ∀ (l : Nat) (J Jx : List ByteArray -> World -> Prop) (W : World), Below w.heap.size w W -> Bides b J -> Bides b Jx ->
  (∀ pre x W1, J pre W1 -> pre ++ [x] <+: T -> YieldAt F (n - 1) P l #[.string x] W1 fun d W' =>
   (d = .returned (.bool true) /\ J (pre ++ [x]) W' /\ ∀ k, b <= k -> k < e -> W'.heap[k]? = W1.heap[k]?) \/ (d = .returned (.bool false) /\ Jx (pre ++ [x]) W')) ->
  J [] W -> CallsIn F n P g (#[.func (.yield l) #[] #[]] ++ lb) W fun e W' => (∃ v, e = .returned v) /\ (J T W' \/ ∃ pre, pre <+: T /\ Jx pre W')
def roundLeft (B b e : Nat) (I Ix : List ByteArray -> World -> Prop) (xs : List ByteArray) (W : World) (d : Exit) (_ : Act) (W' : World) : Prop :=
 (d = .normal /\ KeepsFrom B W W' /\ (∀ k, b <= k -> k < e -> W'.heap[k]? = W.heap[k]?) /\ I xs W') \/ (d = .ret /\ KeepsFrom B W W' /\ Ix xs W')
theorem setCell_block {W : World} {b k : Nat} {v : Value} (h : k ≠ b) : (W.setCell ⟨b, 0, none⟩ v).heap[k]? = W.heap[k]? := Below.heap_setCell _ _ _ _ (by simpa using h)
theorem range_box {P : Program} {F : Fence} {n : Nat} {g : Operand} {ps : Array Tmp} {assign body : Code} {Q : Exit -> Act -> World -> Prop} {a : Act} {w : World}
  (hro : F.round = none) (h1 : 1 <= n) {gf : Nat} {lb : Array Value} (hg : a.eval g = .func (.func gf) #[] lb) (hFg : F.fn gf) (eg : ∀ args w, (callFunc gf args).run P w = .ok (.enter gf args) w)
  {b e : Nat} {T : List ByteArray} (hb : b < w.heap.size) (he : e <= w.heap.size) (hseq : SeqBox F (n - 1) P gf lb b e T w) (hps : ps.size = 1)
  (I Ix : List ByteArray -> World -> Prop) (hI : OwnFrom w.heap.size I) (hIx : OwnFrom w.heap.size Ix) (hIb : Bides b I) (hXb : Bides b Ix) (h0 : I [] w) (a₁ : ByteArray -> Act)
  (hassign : ∀ (l : Nat) (x : ByteArray) (W : World) (K : Act -> World -> Prop), K (a₁ x) W ->
   assign.wpIn (F.inRound l) (n - 1 - 1) P (Exit.then K (fun _ _ _ => False)) { tmps := (ps.zip #[.string x]).foldl (fun t (p, v) => t.setIfInBounds p v) a.tmps, defers := [] } W)
  (hbody : ∀ (l : Nat) (pre : List ByteArray) (x : ByteArray) (W : World), I pre W -> pre ++ [x] <+: T -> body.wpIn (F.inRound l) (n - 1 - 1) P (roundLeft w.heap.size b e I Ix (pre ++ [x]) W) (a₁ x) W)
  (hdone : ∀ (D : Nat) (W : World), w.heap.size <= D -> I T W -> W.heap[D]? = some (.deferred (some [])) -> Q .normal { a with defers := { target := .collected D, args := #[] } :: a.defers } W)
  (hstop : ∀ (D : Nat) (pre : List ByteArray) (W : World), w.heap.size <= D -> Ix pre W -> W.heap[D]? = some (.deferred (some [])) -> Code.ret.wpIn F n P Q { a with defers := { target := .collected D, args := #[] } :: a.defers } W) :
  (Code.rangeFunc g ps assign body).wpIn F n P Q a w := by
 refine wpIn_rangeFunc fun fn hfn => ?_
 rw [hro]
 obtain ⟨s, hs⟩ : ∃ s, w.heap.size = s := ⟨_, rfl⟩
 -- the record of the loop, in each of its states
 let R : LoopState -> Option Code -> Loop := fun st pe => { state := st, pending := pe, fn := fn, tmps := a.tmps, params := ps, assign := assign, body := body, defers := s }
 obtain ⟨V, hV⟩ : ∃ V, (w.alloc (.deferred (some []))).alloc (.loop (R .ready none)) = V := ⟨_, rfl⟩
 have vL : V.heap[s + 1]? = some (.loop (R .ready none)) := by
  have := World.alloc_heap_new (w.alloc (.deferred (some []))) (.loop (R .ready none))
  rw [World.size_alloc, hs, hV] at this; exact this
 have vD : V.heap[s]? = some (.deferred (some [])) := by
  rw [<- hV, <- hs]
  exact (Below.heap_alloc _ _ _ (by simp)).trans (World.alloc_heap_new w _)
 have vB : Below w.heap.size w V := by rw [<- hV]; exact ((Below.refl _ w).alloc (Nat.le_refl _) _).alloc (by simp) _
 have vI : I [] V := by rw [<- hV]; exact hI.alloc _ (hI.alloc _ h0)
 have en : (Instr.enterLoop fn a.tmps ps assign body none).run P w = .ok (s + 1, [{ target := .collected s, args := #[] }]) V := by
  rw [run_enterLoop_outer, hs, <- hV]
 refine ⟨s + 1, _, V, { target := .fn (.func gf) lb, args := #[.func (.yield (s + 1)) #[] #[]] }, V, gf, #[.func (.yield (s + 1)) #[] #[]] ++ lb, V, en, ?_, ?_, ?_, fun _ => h1, ?_⟩
 ·simp only [resolve, hg]
  simp [go_sem]
 ·intro f' hf'
  simp [Target.leads] at hf'
  subst hf'
  exact hFg
 ·simp [invoke, go_sem, eg]
 rw [hs] at hI hIx hbody hdone hstop hb he
 refine (hseq (s + 1) (fun pre W => I pre W /\ W.heap[s + 1]? = some (.loop (R .ready none)) /\ W.heap[s]? = some (.deferred (some [])))
  (fun pre W => Ix pre W /\ W.heap[s + 1]? = some (.loop (R .done (some .ret))) /\ W.heap[s]? = some (.deferred (some []))) V vB
  ⟨fun pre W v q => ⟨hIb.1 _ _ v q.1, (setCell_block (by omega)).trans q.2.1, (setCell_block (by omega)).trans q.2.2⟩, fun pre W q => ⟨hIb.2 _ _ q.1, q.2.1, q.2.2⟩⟩
  ⟨fun pre W v q => ⟨hXb.1 _ _ v q.1, (setCell_block (by omega)).trans q.2.1, (setCell_block (by omega)).trans q.2.2⟩, fun pre W q => ⟨hXb.2 _ _ q.1, q.2.1, q.2.2⟩⟩ ?_ ⟨vI, vL, vD⟩).mono ?_
 ·-- a round
  rintro pre x W ⟨qI, qL, qD⟩ hpx
  refine ⟨fn, _, assign, body, run_yield (P := P) (args := #[.string x]) qL (by simp [R, hps]), roundIn_of_wpIn hfn (hassign _ x W _ ?_)⟩
  have qlt : s + 1 < W.heap.size := (Array.getElem?_eq_some_iff.1 qL).1
  obtain ⟨X, hX⟩ : ∃ X, W.putObj (s + 1) (.loop (R .busy none)) = X := ⟨_, rfl⟩
  have xL : X.heap[s + 1]? = some (.loop (R .busy none)) := by rw [<- hX]; exact World.putObj_heap_same qlt
  have xD : X.heap[s]? = some (.deferred (some [])) := by rw [<- hX]; exact (World.putObj_heap_other (by omega)).trans qD
  have xb : ∀ k, b <= k -> k < e -> X.heap[k]? = W.heap[k]? := fun k _ hk => by rw [<- hX]; exact World.putObj_heap_other (by omega)
  have xI : I pre X := by rw [<- hX]; exact hI.putObj _ qI (by omega) qL rfl
  refine ⟨X, by rw [<- hX]; exact run_beginRound qL rfl, wpIn_mono (hbody _ pre x X xI hpx) ?_⟩
  have fin : ∀ (j : Option Code) (Y : World), KeepsFrom s X Y -> (Instr.endRound (s + 1) j).run P Y = .ok (.bool j.isNone) (Y.putObj (s + 1) (.loop (R (if j.isNone then .ready else .done) j))) /\ Y.heap[s + 1]? = some (.loop (R .busy none)) /\
    (Y.putObj (s + 1) (.loop (R (if j.isNone then .ready else .done) j))).heap[s + 1]? = some (.loop (R (if j.isNone then .ready else .done) j)) /\ (Y.putObj (s + 1) (.loop (R (if j.isNone then .ready else .done) j))).heap[s]? = some (.deferred (some [])) := by
   intro j Y k
   have yL := k.same _ _ (by omega) xL rfl
   have yD := k.same _ _ (Nat.le_refl _) xD rfl
   exact ⟨run_endRound (P := P) j yL, yL, World.putObj_heap_same (Array.getElem?_eq_some_iff.1 yL).1, (World.putObj_heap_other (by omega)).trans yD⟩
  rintro d a3 Y (⟨rfl, k, kb, kI⟩ | ⟨rfl, k, kI⟩)
  ·obtain ⟨r1, r2, r3, r4⟩ := fin none Y k
   exact ⟨_, _, r1, .inl ⟨rfl, ⟨hI.putObj _ kI (by omega) r2 rfl, r3, r4⟩, fun j h1 h2 => (World.putObj_heap_other (by omega)).trans ((kb j h1 h2).trans (xb j h1 h2))⟩⟩
  ·obtain ⟨r1, r2, r3, r4⟩ := fin (some .ret) Y k
   exact ⟨_, _, r1, .inr ⟨rfl, hIx.putObj _ kI (by omega) r2 rfl, r3, r4⟩⟩
 ·-- behind the iterator
  rintro d W2 ⟨⟨v, rfl⟩, (⟨qI, qL, qD⟩ | ⟨pre, _, qI, qL, qD⟩)⟩
  ·exact ⟨none, _, run_endLoop (P := P) qL (by simp [R]), hdone s _ (Nat.le_refl _) (hI.putObj _ qI (by omega) qL rfl) ((World.putObj_heap_other (by omega)).trans qD)⟩
  ·exact ⟨some .ret, _, run_endLoop (P := P) qL (by simp [R]), hstop s pre _ (Nat.le_refl _) (hIx.putObj _ qI (by omega) qL rfl) ((World.putObj_heap_other (by omega)).trans qD)⟩
end Go.Proofs.YtcfnkndbhpdfnaaGreatDoor
namespace Go.Proofs.YtcfnkndbhpdfnaaGreatDoor
open Go.RowKit Go.Shelf
attribute [local go_sem] Oper.semAt_some
structure SsB (W : World) (b : Nat) (s : ByteArray) : Prop where
 h0 : W.heap[b]? = some (.cells #[.string s] 9 (0, 0))
 h1 : W.heap[b + 1]? = some (.cells #[.string ⟨#[47]⟩] 9 (0, 0))
 h2 : W.heap[b + 2]? = some (.cells #[.int .i64 0] 3 (0, 0))
theorem SsB.kept {W W' : World} {b : Nat} {s : ByteArray} (h : SsB W b s) (hk : ∀ k, b <= k -> k < b + 3 -> W'.heap[k]? = W.heap[k]?) : SsB W' b s :=
 ⟨(hk b (by omega) (by omega)).trans h.h0, (hk (b + 1) (by omega) (by omega)).trans h.h1, (hk (b + 2) (by omega) (by omega)).trans h.h2⟩
theorem box_cell {W : World} {b : Nat} {v : Value} {t : TypeId} (h : W.heap[b]? = some (.cells #[v] t (0, 0))) : W.cell? ⟨b, 0, none⟩ = some v := by simp [World.cell?, h]
theorem box_frozen {W : World} {b : Nat} {v : Value} {t : TypeId} (h : W.heap[b]? = some (.cells #[v] t (0, 0))) : W.frozen? ⟨b, 0, none⟩ = false := by simp [World.frozen?, h]
theorem box_set {W : World} {b : Nat} {u v : Value} {t : TypeId} (h : W.heap[b]? = some (.cells #[u] t (0, 0))) : (W.setCell ⟨b, 0, none⟩ v).heap[b]? = some (.cells #[v] t (0, 0)) := by
 simp [World.setCell, Array.getElem?_modify, h]
theorem SsB.set {W : World} {b : Nat} {s : ByteArray} (h : SsB W b s) (x : ByteArray) : SsB (W.setCell ⟨b, 0, none⟩ (.string x)) b x :=
 ⟨box_set h.h0, (setCell_block (by omega)).trans h.h1, (setCell_block (by omega)).trans h.h2⟩
def leftIn (b : Nat) (W : World) : Nat := match W.cell? ⟨b, 0, none⟩ with
 | some (.string x) => x.size
 | _ => 0
theorem leftIn_eq {W : World} {b : Nat} {s : ByteArray} (h : SsB W b s) : leftIn b W = s.size := by
 unfold leftIn; rw [box_cell h.h0]
theorem ext_ext (s : ByteArray) (k i : Nat) (h : k + i <= s.size) : (s.extract k s.size).extract 0 i = s.extract k (k + i) := by
 apply bytes_inj2
 rw [ByteArray.toList_eq, ByteArray.toList_eq, extract_data, extract_data, extract_data, List.drop_zero, List.take_take]
 congr 1
 omega
theorem ext_rest (s : ByteArray) (k i : Nat) (h : k + i <= s.size) : (s.extract k s.size).extract i (s.extract k s.size).size = s.extract (k + i) s.size := by
 apply bytes_inj2
 rw [ByteArray.toList_eq, ByteArray.toList_eq, extract_data, extract_data, extract_data]
 rw [List.take_of_length_le (l := List.drop k s.data.toList) (by rw [List.length_drop, size_eq]; omega), List.drop_drop, List.take_of_length_le, List.take_of_length_le]
 ·rw [List.length_drop, size_eq]; omega
 ·rw [List.length_drop, size_eq, ByteArray.size_extract]; omega
set_option maxRecDepth 100000 in
set_option maxHeartbeats 2000000 in
theorem split1_in (n : Nat) (hn : 1 <= n) (l b : Nat) (s : ByteArray) (hs : s.size <= 1048576) (J Jx : List ByteArray -> World -> Prop) (hJb : Bides b J)
  (hY : ∀ pre x W, J pre W -> pre ++ [x] <+: cutOf 47 s -> YieldAt Fence.wide (n - 1) Tryz.prog l #[.string x] W fun e W' =>
   (e = .returned (.bool true) /\ J (pre ++ [x]) W' /\ ∀ k, b <= k -> k < b + 3 -> W'.heap[k]? = W.heap[k]?) \/ (e = .returned (.bool false) /\ Jx (pre ++ [x]) W'))
  (W : World) (hB : SsB W b s) (h0 : J [] W) :
  CallsIn Fence.wide n Tryz.prog 150 #[.func (.yield l) #[] #[], .pointer (some ⟨b + 1, 0, none⟩), .pointer (some ⟨b, 0, none⟩), .pointer (some ⟨b + 2, 0, none⟩)] W fun e W' => (∃ v, e = .returned v) /\
   (J (cutOf 47 s) W' \/ (∃ pre, pre <+: cutOf 47 s /\ Jx pre W')) := by
 have hc1 := box_cell hB.h1
 refine callsIn_of_wp Tryz.func150 rfl trivial ?_ rfl
 simp only [Tryz.ntmps150, List.size_toArray, List.length_cons, List.length_nil, Nat.reduceAdd, Nat.reduceSub, Array.replicate_succ, Array.replicate_zero, List.push_toArray, List.append_toArray, List.nil_append, List.cons_append]
 gi_wp2
 clear hc1
 gi_loopw [7] (fun _ wr => ∃ (k : Nat) (pre : List ByteArray), k <= s.size /\ Hid (cutOf 47 s = pre ++ cutFrom 47 s k) /\ SsB wr b (s.extract k s.size) /\ J pre wr)
  (fun _ wr => leftIn b wr)
 case atStart =>
  refine ⟨0, [], Nat.zero_le _, rfl, ?_, h0⟩
  have e : s.extract 0 s.size = s := by simp
  rw [e]; exact hB
 case round =>
  obtain ⟨k, pre, hk, HX, hbx, hJs⟩ := hrel
  have hc0 := box_cell hbx.h0
  have hf0 := box_frozen hbx.h0
  have hc1 := box_cell hbx.h1
  have hc2 := box_cell hbx.h2
  have hm := leftIn_eq hbx
  have hsx : (s.extract k s.size).size = s.size - k := by rw [ByteArray.size_extract]; omega
  have hI := fun w => index47 (s.extract k s.size) w
  have hdl : (s.extract k s.size).data.toList = s.data.toList.drop k := by
   rw [extract_data, List.take_of_length_le (by rw [List.length_drop, size_eq]; omega)]
  rw [hdl] at hI
  obtain ⟨i, hi⟩ : ∃ i, Lib.indexByte (s.data.toList.drop k) 47 = i := ⟨_, rfl⟩
  rw [hi] at hI
  by_cases hneg : i < 0
  ·have hno := idx_none (c := 47) (s := s) (fr := k) (by rw [hi]; exact hneg)
   have hlast := cutFrom_last 47 s k hno
   have HE : Hid (cutOf 47 s = pre ++ [s.extract k s.size]) := by show _ = _; rw [HX.out, hlast]
   obtain ⟨fn, tmps, assign, body, hy, hR⟩ := hY pre (s.extract k s.size) wr hJs (by rw [HE.out]; exact List.prefix_refl _)
   clear hi hno hlast HX hdl hY
   gi_wp2_with (refine ⟨trivial, ?_⟩; gi_at_call 152; refine (callsIn_wide.2 (hI _)).mono ?_; rintro e w' ⟨rfl, rfl⟩)
   refine hR.mono ?_
   rintro e W3 (⟨rfl, hJ3, hk3⟩ | ⟨rfl, hJx3⟩)
   ·gi_wp2
    go_end0
    exact ⟨⟨_, rfl⟩, .inl (by rw [HE.out]; exact hJ3)⟩
   ·gi_wp2
    go_end0
    exact ⟨⟨_, rfl⟩, .inr ⟨_, by rw [HE.out]; exact List.prefix_refl _, hJx3⟩⟩
  ·obtain ⟨y1, y2, y3⟩ := indexByte_split (s.data.toList.drop k) 47 (by rw [hi]; exact hneg)
   obtain ⟨m, rfl⟩ := Int.eq_ofNat_of_zero_le (show 0 <= i by omega)
   rw [hi] at y1 y2 y3
   have em : (m : Int).toNat = m := rfl
   rw [em] at y1 y2 y3
   rw [List.length_drop, size_eq] at y3
   have hkm : k + m < s.size := by omega
   have hbyte : s[k + m] = 47 := by
    rw [<- sg_byte s (k + m) hkm]
    have e1 : (s.data.toList.drop k)[m]? = some 47 := by
     rw [y2, List.getElem?_append_right (by rw [List.length_take, List.length_drop, size_eq]; omega)]
     rw [List.length_take, List.length_drop, size_eq, show m - min m (s.size - k) = 0 by omega]
     rfl
    rw [List.getElem?_drop, List.getElem?_eq_getElem (by rw [size_eq]; exact hkm)] at e1
    exact Option.some.inj e1
   have hat := cutFrom_at 47 s k (k + m) (by omega) hkm (by unfold sg; rw [show k + m - k = m by omega]; exact y1) hbyte
   have HS : Hid (cutOf 47 s = (pre ++ [s.extract k (k + m)]) ++ cutFrom 47 s (k + m + 1)) := by show _ = _; rw [HX.out, hat]; simp
   have E1 := ext_ext s k m (by omega)
   have E2 := ext_rest s k (m + 1) (by omega)
   obtain ⟨fn, tmps, assign, body, hy, hR⟩ := hY pre (s.extract k (k + m)) wr hJs (by rw [HS.out]; exact List.prefix_append _ _)
   have E3 : (s.extract k s.size).extract (m + 1) (s.size - k) = s.extract (k + (m + 1)) s.size := by rw [<- hsx]; exact E2
   have hms : m <= 1048576 := by omega
   clear hi y1 y2 hat HX hdl hY hbyte em
   gi_wp2_with (refine ⟨trivial, ?_⟩; gi_at_call 152; refine (callsIn_wide.2 (hI _)).mono ?_; rintro e w' ⟨rfl, rfl⟩)
   refine hR.mono ?_
   rintro e W3 (⟨rfl, hJ3, hk3⟩ | ⟨rfl, hJx3⟩)
   ·have hb3 := hbx.kept hk3
    have hc0 := box_cell hb3.h0
    have hf0 := box_frozen hb3.h0
    have hc1 := box_cell hb3.h1
    have hn3 := hb3.set (s.extract (k + (m + 1)) s.size)
    have hJ4 := hJb.1 _ _ (.string (s.extract (k + (m + 1)) s.size)) hJ3
    have hm4 := leftIn_eq hn3
    have hm3 : leftIn b w' = s.size - k := by rw [hm, hsx]
    have hz4 : (s.extract (k + (m + 1)) s.size).size = s.size - (k + (m + 1)) := by rw [ByteArray.size_extract]; omega
    clear hk3 hbx hJs hb3 hR hy
    gi_wp2
    go_roundw
    case rel => exact ⟨k + (m + 1), pre ++ [s.extract k (k + m)], by omega, HS, hn3, hJ4⟩
    case measure => rw [hm4, hm3, hz4]; omega
   ·gi_wp2
    refine bodyPost_ret (results_none rfl _ _ _) rfl ?_
    exact ⟨⟨_, rfl⟩, .inr ⟨pre ++ [s.extract k (k + m)], by rw [HS.out]; exact List.prefix_append _ _, hJx3⟩⟩
theorem split_seq (n : Nat) (hn : 1 <= n) (b : Nat) (s : ByteArray) (hs : s.size <= 1048576) (w : World) (hb : b + 3 <= w.heap.size) (hB : SsB w b s) :
  SeqBox Fence.wide n Tryz.prog 150 #[.pointer (some ⟨b + 1, 0, none⟩), .pointer (some ⟨b, 0, none⟩), .pointer (some ⟨b + 2, 0, none⟩)] b (b + 3) (cutOf 47 s) w := fun l J Jx W hW hJ _ hY h0 =>
 split1_in n hn l b s hs J Jx hJ hY W (hB.kept (fun k _ hk => hW.block k (by omega))) h0
set_option maxHeartbeats 400000 in
theorem splitSeq_any (s : ByteArray) (w : World) :
  Calls Tryz.prog 124 #[.string s, .string ⟨#[47]⟩, .int .i64 0] w fun e w' => e = .returned (.func (.func 150) #[] #[.pointer (some ⟨w.heap.size + 1, 0, none⟩), .pointer (some ⟨w.heap.size, 0, none⟩), .pointer (some ⟨w.heap.size + 2, 0, none⟩)]) /\ w' = ((w.alloc (.cells #[.string s] 9)).alloc (.cells #[.string ⟨#[47]⟩] 9)).alloc (.cells #[.int .i64 0] 3) := by
 go_enter Tryz.func124, Tryz.ntmps124
 go_wp2
 go_ret
 exact ⟨rfl, rfl⟩
set_option maxHeartbeats 400000 in
theorem SplitSeq_any (s : ByteArray) (w : World) :
  Calls Tryz.prog 106 #[.string s, .string ⟨#[47]⟩] w fun e w' => e = .returned (.func (.func 150) #[] #[.pointer (some ⟨w.heap.size + 1, 0, none⟩), .pointer (some ⟨w.heap.size, 0, none⟩), .pointer (some ⟨w.heap.size + 2, 0, none⟩)]) /\ w' = ((w.alloc (.cells #[.string s] 9)).alloc (.cells #[.string ⟨#[47]⟩] 9)).alloc (.cells #[.int .i64 0] 3) := by
 have h := fun w => splitSeq_any s w
 go_enter Tryz.func106, Tryz.ntmps106
 go_wp2_with (go_at_call 124; refine (h _).mono ?_; rintro e w' ⟨rfl, rfl⟩)
 go_ret
 exact ⟨rfl, rfl⟩
end Go.Proofs.YtcfnkndbhpdfnaaGreatDoor
