/- A loop over an iterator whose rounds know what has come so far: a round is told how its element stands to those ahead of it. No statement is proved here. -/
import Derived.RangeFuncNested
import Derived.RangeFuncWrites
import Derived.Test.YtjcnnmnnbjaheaaGreatDoorIterQ
import Derived.RangeFuncBound
import Derived.RangeFuncCalls
import Derived.RangeFuncLeaves
import Derived.RangeFuncBox
import Derived.Shelf.Abstract
import Derived.Shelf.RegionOpen
import Derived.WalkKit
import Derived.OwnWalkIn
import Derived.TacticsInMore
import Derived.LoopNIn
import Derived.LoopIn
import Derived.WalkSpells
import Derived.Test.YtjcnnmnnbjaheaaGreatDoorRows
import Derived.Test.YtjcnnmnnbjaheaaGreatDoorLemQ
import Derived.Test.YtjcnnmnnbjaheaaGreatDoorLFLemQ
namespace Go.Proofs.YtjcnnmnnbjaheaaGreatDoor
open Go.RowKit Go.Shelf

section
variable {F : Fence} {n : Nat} {P : Program} {α : Type}
/-- What an iterator promises whose rounds are called at elements that C admits behind those ahead. -/
def SeqC (F : Fence) (n : Nat) (P : Program) (g : Nat) (lb : Array Value) (encs : α → Array Value) (Kp : World → World → Prop) (S Sp : List α → Prop) (C : List α → α → Prop) (w : World) : Prop :=
  ∀ (l : Nat) (J Jx : List α → World → Prop) (W : World), Below w.heap.size w W →
    (∀ pre x U, C pre x → J pre U → YieldAt F (n - 1) P l (encs x) U fun e V => (e = .returned (.bool true) ∧ J (pre ++ [x]) V ∧ Kp U V) ∨ (e = .returned (.bool false) ∧ Jx (pre ++ [x]) V)) →
    J [] W → CallsIn F n P g (#[.func (.yield l) #[] #[]] ++ lb) W fun e V => (∃ v, e = .returned v) ∧ ((∃ xs, S xs ∧ J xs V) ∨ (∃ pre, Sp pre ∧ Jx pre V))

/-- Between two rounds: the invariant, the record ready, nothing deferred. -/
def Btw (I : List α → World → Prop) (rec : LoopState → Option Code → Loop) (l D : Nat) (xs : List α) (V : World) : Prop :=
  I xs V ∧ V.heap[l]? = some (.loop (rec .ready none)) ∧ V.heap[D]? = some (.deferred (some []))
/-- Behind a round that has left. -/
def Lft (Ix : Code → List α → World → Prop) (rec : LoopState → Option Code → Loop) (l D : Nat) (xs : List α) (V : World) : Prop :=
  ∃ c, Ix c xs V ∧ V.heap[l]? = some (.loop (rec .done (some c))) ∧ V.heap[D]? = some (.deferred (some []))

/-- How a round ends. -/
theorem roundEnd {D l : Nat} {Kp : World → World → Prop} {I : List α → World → Prop} {Ix : Code → List α → World → Prop} {xs : List α} {rec : LoopState → Option Code → Loop} {U : World}
    (hrec : ∀ s p s' p', ({ rec s p with state := s', pending := p' } : Loop) = rec s' p')
    (hKt : ∀ {A B C : World}, Kp A B → Kp B C → Kp A C) (hKb : ∀ (W : World) (o o' : Obj), W.heap[l]? = some o → o.isCells = false → o.isWalk = false → Kp W (W.putObj l o'))
    (hI : OwnFrom D I) (hIx : ∀ c, OwnFrom D (Ix c)) (hDl : D < l) (hl : U.heap[l]? = some (.loop (rec .ready none))) (hD : U.heap[D]? = some (.deferred (some []))) :
    ∀ e a V, ownPostG D Kp I Ix xs (U.putObj l (.loop (rec .busy none))) e a V →
      roundPost P l (fun e' V' => (e' = .returned (.bool true) ∧ Btw I rec l D xs V' ∧ Kp U V') ∨ (e' = .returned (.bool false) ∧ Lft Ix rec l D xs V')) e a V := by
  have hlt : l < U.heap.size := (Array.getElem?_eq_some_iff.1 hl).1
  have q1 := World.putObj_heap_same (o := .loop (rec .busy none)) hlt
  have q2 := (World.putObj_heap_other (w := U) (o := .loop (rec .busy none)) (show D ≠ l by omega)).trans hD
  have k1 := hKb U _ (.loop (rec .busy none)) hl rfl rfl
  generalize U.putObj l (.loop (rec .busy none)) = U1 at q1 q2 k1
  have out : ∀ (j : Option Code) (V : World), KeepsFrom D U1 V → ∃ V', V' = V.putObj l (.loop (rec (if j.isNone then .ready else .done) j)) ∧ (Instr.endRound l j).run P V = .ok (.bool j.isNone) V' ∧
      V.heap[l]? = some (.loop (rec .busy none)) ∧ V'.heap[l]? = some (.loop (rec (if j.isNone then .ready else .done) j)) ∧ V'.heap[D]? = some (.deferred (some [])) := by
    intro j V h
    have a1 := h.same l _ (Nat.le_of_lt hDl) q1 rfl
    have a2 := h.same D _ (Nat.le_refl _) q2 rfl
    have a3 := run_endRound (P := P) j a1
    rw [hrec] at a3
    exact ⟨_, rfl, a3, a1, World.putObj_heap_same (Array.getElem?_eq_some_iff.1 a1).1, (World.putObj_heap_other (show D ≠ l by omega)).trans a2⟩
  have bad : ∀ (c : Code) (V : World), KeepsFrom D U1 V → Ix c xs V → ∃ v V', (Instr.endRound l (some c)).run P V = .ok v V' ∧
      ((Ending.returned v = .returned (.bool true) ∧ Btw I rec l D xs V' ∧ Kp U V') ∨ (Ending.returned v = .returned (.bool false) ∧ Lft Ix rec l D xs V')) := by
    intro c V h hx
    obtain ⟨V', rfl, r1, r2, r3, r4⟩ := out (some c) V h
    exact ⟨_, _, r1, .inr ⟨rfl, c, (hIx c).putObj _ hx (Nat.le_of_lt hDl) r2 rfl, r3, r4⟩⟩
  intro e a V h
  cases e with
  | normal =>
    obtain ⟨h1, h2, h3⟩ := h
    obtain ⟨V', rfl, r1, r2, r3, r4⟩ := out none V h1
    exact ⟨_, _, r1, .inl ⟨rfl, ⟨hI.putObj _ h3 (Nat.le_of_lt hDl) r2 rfl, r3, r4⟩, hKt (hKt k1 h2) (hKb _ _ _ r2 rfl rfl)⟩⟩
  | ret => exact bad _ V h.1 h.2
  | exit id => exact bad _ V h.1 h.2
  | goto t => exact bad _ V h.1 h.2
  | panic ch => exact h.elim
  | outgrown => exact h.elim

/-- The loop. -/
theorem wpIn_rangeC {g : Operand} {ps : Array Tmp} {assign body : Code} {Q : Exit → Act → World → Prop} {a : Act} {w : World}
    (hro : F.round = none) (h1 : 1 ≤ n) {gf : Nat} {lb : Array Value} (hg : a.eval g = .func (.func gf) #[] lb) (hFg : F.fn gf) (eg : ∀ args w, (callFunc gf args).run P w = .ok (.enter gf args) w)
    {encs : α → Array Value} {Kp : World → World → Prop} {S Sp : List α → Prop} {C : List α → α → Prop} {w0 : World} (hseq : SeqC F (n - 1) P gf lb encs Kp S Sp C w0)
    (hKt : ∀ {A B C : World}, Kp A B → Kp B C → Kp A C) (hKb : ∀ (W : World) (l : Nat) (o o' : Obj), w.heap.size ≤ l → W.heap[l]? = some o → o.isCells = false → o.isWalk = false → Kp W (W.putObj l o')) (hb0 : Below w0.heap.size w0 w) (hps : ∀ x, (encs x).size = ps.size)
    (I : List α → World → Prop) (Ix : Code → List α → World → Prop) (hI : OwnFrom w.heap.size I) (hIx : ∀ c, OwnFrom w.heap.size (Ix c)) (h0 : I [] w) (a₁ : α → Act)
    (hassign : ∀ (l : Nat) (x : α) (W : World) (K : Act → World → Prop), K (a₁ x) W →
      assign.wpIn (F.inRound l) (n - 1 - 1) P (Exit.then K (fun _ _ _ => False)) { tmps := (ps.zip (encs x)).foldl (fun t (p, v) => t.setIfInBounds p v) a.tmps, defers := [] } W)
    (hbody : ∀ (l : Nat) (pre : List α) (x : α) (W : World), I pre W → C pre x → body.wpIn (F.inRound l) (n - 1 - 1) P (ownPostG w.heap.size Kp I Ix (pre ++ [x]) W) (a₁ x) W)
    (hdone : ∀ (D : Nat) (xs : List α) (W : World), w.heap.size ≤ D → S xs → I xs W → W.heap[D]? = some (.deferred (some [])) → Q .normal { a with defers := { target := .collected D, args := #[] } :: a.defers } W)
    (hstop : ∀ (D : Nat) (c : Code) (pre : List α) (W : World), w.heap.size ≤ D → Sp pre → Ix c pre W → W.heap[D]? = some (.deferred (some [])) → c.wpIn F n P Q { a with defers := { target := .collected D, args := #[] } :: a.defers } W) :
    (Code.rangeFunc g ps assign body).wpIn F n P Q a w := by
  refine wpIn_rangeFunc fun fn hfn => ?_
  rw [hro]
  obtain ⟨D, hD⟩ : ∃ D, w.heap.size = D := ⟨_, rfl⟩
  obtain ⟨rec, hr⟩ : ∃ rec : LoopState → Option Code → Loop, rec = fun st pe => { state := st, pending := pe, fn, tmps := a.tmps, params := ps, assign, body, defers := D } := ⟨_, rfl⟩
  have hrec : ∀ s p s' p', ({ rec s p with state := s', pending := p' } : Loop) = rec s' p' := by rw [hr]; intros; rfl
  have henter := run_enterLoop_outer (P := P) (w := w) fn a.tmps ps assign body
  have hJ0 : Btw I rec (D + 1) D [] ((w.alloc (.deferred (some []))).alloc (.loop (rec .ready none))) := by
    refine ⟨hI.alloc _ (hI.alloc _ h0), ?_, ?_⟩
    · have h := World.alloc_heap_new (w.alloc (.deferred (some []))) (.loop (rec .ready none))
      rwa [World.size_alloc, hD] at h
    · have h := World.alloc_heap_new w (.deferred (some []))
      rw [hD] at h
      exact (Below.heap_alloc _ _ _ (by simp; omega)).trans h
  have hb1 : Below w0.heap.size w0 ((w.alloc (.deferred (some []))).alloc (.loop (rec .ready none))) := (hb0.alloc hb0.size _).alloc (by have := hb0.size; simp; omega) _
  rw [hD] at henter hI hIx hbody
  have hrr : ({ state := .ready, pending := none, fn, tmps := a.tmps, params := ps, assign, body, defers := D } : Loop) = rec .ready none := by rw [hr]
  rw [hrr] at henter
  generalize (w.alloc (.deferred (some []))).alloc (.loop (rec .ready none)) = W1 at henter hJ0 hb1
  refine ⟨D + 1, [{ target := .collected D, args := #[] }], W1, { target := .fn (.func gf) lb, args := #[.func (.yield (D + 1)) #[] #[]] }, W1, gf,
    #[.func (.yield (D + 1)) #[] #[]] ++ lb, W1, henter, ?_, ?_, ?_, fun _ => h1, ?_⟩
  · simp only [resolve, hg]; simp [go_sem]
  · intro f' hf'; simp [Target.leads] at hf'; subst hf'; exact hFg
  · simp [invoke, go_sem, eg]
  refine (hseq (D + 1) (Btw I rec (D + 1) D) (Lft Ix rec (D + 1) D) W1 hb1 ?_ hJ0).mono ?_
  · -- a round
    rintro pre x U hC ⟨hi, hl, hk⟩
    have hy := run_yield (P := P) (args := encs x) hl (by rw [hr]; exact hps x)
    have hbg := run_beginRound (P := P) hl (by rw [hr])
    have hlt : D + 1 < U.heap.size := (Array.getElem?_eq_some_iff.1 hl).1
    have e1 : ({ rec .ready none with state := .busy } : Loop) = rec .busy none := by rw [hr]
    rw [e1] at hbg
    have hend := roundEnd (P := P) (Kp := Kp) (l := D + 1) (xs := pre ++ [x]) hrec hKt (fun W o o' => hKb W (D + 1) o o' (by omega)) hI hIx (by omega) hl hk
    rw [hr] at hy
    refine ⟨fn, _, assign, body, hy, roundIn_of_wpIn hfn (hassign _ x U _ ⟨_, hbg, ?_⟩)⟩
    exact wpIn_mono (hbody _ pre x _ (hI.putObj _ hi (Nat.le_succ _) hl rfl) hC) hend
  · -- behind the iterator
    have hst : ∀ s p, (rec s p).state = s := by rw [hr]; intros; rfl
    have hpe : ∀ s p, (rec s p).pending = p := by rw [hr]; intros; rfl
    rintro e V ⟨⟨v, rfl⟩, (⟨xs, hS, hi, hl, hk⟩ | ⟨pre, hSp, c, hi, hl, hk⟩)⟩
    · have he := run_endLoop (P := P) hl (by rw [hst]; simp)
      rw [hpe] at he
      exact ⟨none, _, he, hdone D xs _ (Nat.le_of_eq hD) hS (hI.putObj _ hi (Nat.le_succ _) hl rfl) ((World.putObj_heap_other (by omega)).trans hk)⟩
    · have he := run_endLoop (P := P) hl (by rw [hst]; simp)
      rw [hpe] at he
      exact ⟨some c, _, he, hstop D c pre _ (Nat.le_of_eq hD) hSp ((hIx c).putObj _ hi (Nat.le_succ _) hl rfl) ((World.putObj_heap_other (by omega)).trans hk)⟩
end
end Go.Proofs.YtjcnnmnnbjaheaaGreatDoor
/- The lines of a text by the program's iterator, whose rounds know the lines ahead. No statement is proved here. -/
namespace Go.Proofs.YtjcnnmnnbjaheaaGreatDoor
open Go.RowKit Go.Shelf
attribute [local go_sem] Oper.semAt_some

set_option maxRecDepth 100000 in
set_option maxHeartbeats 1000000 in
theorem lines1_C (n : Nat) (hn : 1 ≤ n) (l Bn : Nat) (s : ByteArray) (hs : s.size ≤ 1048576) (J Jx : List ByteArray → World → Prop)
    (hY : ∀ pre x W, pre ++ [x] <+: linesOf s → J pre W → YieldAt Fence.wide (n - 1) Tryz.prog l #[.string x] W fun e W' =>
      (e = .returned (.bool true) ∧ J (pre ++ [x]) W' ∧ KeepB Bn W W') ∨ (e = .returned (.bool false) ∧ Jx (pre ++ [x]) W'))
    (W : World) (hBn : W.heap[Bn]? = some (.cells #[.string s] 9 (0, 0))) (h0 : J [] W) :
    CallsIn Fence.wide n Tryz.prog 67 #[.func (.yield l) #[] #[], .pointer (some ⟨Bn, 0, none⟩)] W fun e W' => (∃ v, e = .returned v) ∧
      ((∃ ys, ys = linesOf s ∧ J ys W') ∨ (∃ pre, pre <+: linesOf s ∧ Jx pre W')) := by
  refine callsIn_of_wp Tryz.func67 rfl trivial ?_ rfl
  simp only [Tryz.ntmps67, List.size_toArray, List.length_cons, List.length_nil, Nat.reduceAdd, Nat.reduceSub, Array.replicate_succ, Array.replicate_zero, List.push_toArray, List.append_toArray, List.nil_append, List.cons_append]
  gi_wp2
  gi_loopw [3] (fun p wr => ∃ (k : Nat) (pre : List ByteArray), k ≤ s.size ∧ p = .int .i64 k ∧ linesOf s = pre ++ linesFrom s k ∧ wr.heap[Bn]? = some (.cells #[.string s] 9 (0, 0)) ∧ J pre wr)
    (fun p _ => s.size - (intOf p).toNat)
  case atStart =>
    exact ⟨0, [], Nat.zero_le _, rfl, rfl, hBn, h0⟩
  case round =>
    obtain ⟨k, pre, hk, rfl, hx, hbox, hJs⟩ := hrel
    have hcell : wr.cell? ⟨Bn, 0, none⟩ = some (.string s) := by simp [World.cell?, hbox]
    by_cases hlt : k < s.size
    · have hst := linesFrom_step s k hlt
      obtain ⟨hb1, hb2⟩ := endOf_bd s k hlt
      have HX : Hid (linesOf s = pre ++ linesFrom s k) := hx
      have HST : Hid (linesFrom s k = s.extract k (endOf s k) :: linesFrom s (endOf s k)) := hst
      have hE := fun w => lineEnd s k w hs hlt
      obtain ⟨j, hj⟩ : ∃ j, endOf s k = j := ⟨_, rfl⟩
      rw [hj] at hE hb1 hb2
      obtain ⟨fn, tmps, assign, body, hy, hR⟩ := hY pre (s.extract k j) wr ⟨linesFrom s j, by rw [HX.out, HST.out, hj]; simp⟩ hJs
      clear hx hst
      gi_wp2_with (refine ⟨trivial, ?_⟩; gi_at_call 68; refine (callsIn_wide.2 (hE _)).mono ?_; rintro e w' ⟨rfl, rfl⟩)
      refine hR.mono ?_
      rintro e W3 (⟨rfl, hJ3, hk3⟩ | ⟨rfl, hJx3⟩)
      · have hbox3 := hk3.trans hbox
        clear hk3 hbox hcell hJs
        gi_wp2
        go_roundw
        case rel => exact ⟨j, pre ++ [s.extract k j], hb2, rfl, by rw [HX.out, HST.out, hj]; simp, hbox3, hJ3⟩
        case measure => simp [intOf]; omega
      · gi_wp2
        refine bodyPost_ret (results_none rfl _ _ _) rfl ?_
        exact ⟨⟨_, rfl⟩, .inr ⟨pre ++ [s.extract k j], ⟨linesFrom s j, by rw [HX.out, HST.out, hj]; simp⟩, hJx3⟩⟩
    · have he : linesOf s = pre := by rw [hx, linesFrom_end s k (by omega), List.append_nil]
      clear hx
      gi_wp2
      go_end0
      exact ⟨⟨_, rfl⟩, .inl ⟨pre, he.symm, hJs⟩⟩

theorem lines_C (n : Nat) (hn : 1 ≤ n) (Bn : Nat) (s : ByteArray) (hs : s.size ≤ 1048576) (w : World) (hBn : Bn < w.heap.size) (hc : w.heap[Bn]? = some (.cells #[.string s] 9 (0, 0))) :
    SeqC Fence.wide n Tryz.prog 67 #[.pointer (some ⟨Bn, 0, none⟩)] (fun x : ByteArray => #[Value.string x]) (KeepB Bn) (fun ys => ys = linesOf s) (fun pre => pre <+: linesOf s) (fun pre x => pre ++ [x] <+: linesOf s) w := fun l J Jx W hW hY h0 =>
  lines1_C n hn l Bn s hs J Jx (fun pre x W hx hJ => hY pre x W hx hJ) W ((hW.block Bn hBn).trans hc) h0
end Go.Proofs.YtjcnnmnnbjaheaaGreatDoor
