/- The contract of the program's PathFault. No statement is proved here. -/
import Derived.Test.YtkgcpndnlefkoaaGreatDoorSsCQ
import Derived.Test.YtkgcpndnlefkoaaGreatDoorIdLQ
namespace Go.Proofs.YtkgcpndnlefkoaaGreatDoor
open Go.RowKit Go.Shelf
attribute [local go_sem] Oper.semAt_some

/-- The fault of a path. -/
def pf (s : ByteArray) : Int := if (cutOf 47 s).length ≤ 4 ∧ (cutOf 47 s).all (fun x => nf x == 0) = true then 0 else 1
theorem pf_ok {s : ByteArray} (h : (cutOf 47 s).length ≤ 4) (k : ∀ x ∈ cutOf 47 s, nf x = 0) : pf s = 0 := if_pos ⟨h, List.all_eq_true.2 fun x hx => by simp [k x hx]⟩
theorem pf_many {s : ByteArray} (h : 4 < (cutOf 47 s).length) : pf s = 1 := if_neg (fun q => by have := q.1; omega)
theorem pf_bad {s x : ByteArray} (h : x ∈ cutOf 47 s) (k : ¬ nf x = 0) : pf s = 1 := if_neg (fun q => k (by simpa using List.all_eq_true.1 q.2 x h))
/-- A cell that holds a number. -/
def NumAt (W : World) (b : Nat) (x : Int) : Prop := W.cell? ⟨b, 0, none⟩ = some (.int .i64 x) ∧ W.frozen? ⟨b, 0, none⟩ = false
theorem NumAt.set {W : World} {b : Nat} {x : Int} (h : NumAt W b x) (y : Int) : NumAt (W.setCell ⟨b, 0, none⟩ (.int .i64 y)) b y :=
  ⟨World.cell?_setCell_same' _ _ _ (by rw [h.1]; rfl), by rw [World.frozen?_setCell]; exact h.2⟩
theorem NumAt.other {W : World} {b c : Nat} {x : Int} (h : NumAt W b x) (hc : b ≠ c) (v : Value) : NumAt (W.setCell ⟨c, 0, none⟩ v) b x :=
  ⟨by rw [World.cell?_setCell_other _ _ _ _ (by intro e; cases e; exact hc rfl)]; exact h.1, by rw [World.frozen?_setCell]; exact h.2⟩
theorem NumAt.kept {W W' : World} {b : Nat} {x : Int} (h : NumAt W b x) {row : Option Nat} (hg : W.grownBy W' row) (hr : ∀ r, row = some r → ∃ o : Obj, W.heap[r]? = some o ∧ o.isCells = false) : NumAt W' b x :=
  ⟨cell_kept h.1 hg hr, (frozen_kept h.1 hg hr).trans h.2⟩
theorem NumAt.alloc {W : World} {b : Nat} {x : Int} (h : NumAt W b x) (o : Obj) : NumAt (W.alloc o) b x := h.kept (World.grownBy_alloc W o none) (fun r e => by cases e)
theorem NumAt.new (W : World) (x : Int) (t : TypeId) : NumAt (W.alloc (.cells #[.int .i64 x] t)) W.heap.size x :=
  ⟨box_cell (World.alloc_heap_new W _), box_frozen (World.alloc_heap_new W _)⟩
theorem heap_kept {W : World} {k : Nat} {x : Obj} (o : Obj) (h : W.heap[k]? = some x) : (W.alloc o).heap[k]? = some x := (Below.heap_alloc W o k (Array.getElem?_eq_some_iff.1 h).1).trans h

set_option maxRecDepth 100000 in
set_option maxHeartbeats 2000000 in
theorem implPathFault (s : ByteArray) (w : World) (hs : s.size ≤ 1048576) :
    Calls Tryz.prog 47 #[.string s] w fun e w' => e = .returned (.int .i64 (pf s)) ∧ Below w.heap.size w w' := by
  have hNf := fun x w => implNameFault x w
  refine (callsIn_wide (n := 5)).1 ?_
  refine callsIn_of_wp_marks Tryz.func47 rfl trivial ?_ rfl
  simp only [Tryz.ntmps47, List.size_toArray, List.length_cons, List.length_nil, Nat.reduceAdd, Nat.reduceSub, Array.replicate_succ, Array.replicate_zero, List.push_toArray, List.append_toArray, List.nil_append, List.cons_append]
  gi_wp2_with (refine ⟨trivial, ?_⟩; gi_at_call 64; refine (callsIn_wide.2 (SplitSeq_any _ _)).mono ?_; rintro e w' ⟨rfl, rfl⟩)
  obtain ⟨b, hb⟩ : ∃ b, w.heap.size = b := ⟨_, rfl⟩
  obtain ⟨W0, hW0⟩ : ∃ W0, (((((w.alloc (.cells #[.int .i64 0] 2)).alloc (.cells #[.int .i64 0] 3)).alloc (.cells #[.string s] 9)).alloc (.cells #[.string ⟨#[47]⟩] 9)).alloc (.cells #[.int .i64 0] 3)) = W0 := ⟨_, rfl⟩
  have hz : W0.heap.size = b + 1 + 1 + 3 := by rw [← hW0, ← hb]; simp
  have hbx : SsB W0 (b + 1 + 1) s := by
    rw [← hW0, ← hb]
    have e1 := World.alloc_heap_new ((w.alloc (.cells #[.int .i64 0] 2)).alloc (.cells #[.int .i64 0] 3)) (.cells #[.string s] 9)
    have e2 := World.alloc_heap_new (((w.alloc (.cells #[.int .i64 0] 2)).alloc (.cells #[.int .i64 0] 3)).alloc (.cells #[.string s] 9)) (.cells #[.string ⟨#[47]⟩] 9)
    have e3 := World.alloc_heap_new ((((w.alloc (.cells #[.int .i64 0] 2)).alloc (.cells #[.int .i64 0] 3)).alloc (.cells #[.string s] 9)).alloc (.cells #[.string ⟨#[47]⟩] 9)) (.cells #[.int .i64 0] 3)
    simp only [World.size_alloc] at e1 e2 e3
    exact ⟨heap_kept _ (heap_kept _ e1), heap_kept _ e2, e3⟩
  have hN0 : NumAt W0 b 0 := by rw [← hW0, ← hb]; exact ((((NumAt.new w 0 _).alloc _).alloc _).alloc _).alloc _
  have hN1 : NumAt W0 (b + 1) 0 := by
    have h := NumAt.new (w.alloc (.cells #[.int .i64 0] 2)) 0 3
    rw [World.size_alloc, hb] at h
    rw [← hW0]; exact ((h.alloc _).alloc _).alloc _
  have hB0 : Below b w W0 := by
    rw [← hW0, ← hb]
    exact (((((Below.refl _ w).alloc (Nat.le_refl _) _).alloc (by simp) _).alloc (by simp; omega) _).alloc (by simp; omega) _).alloc (by simp; omega) _
  rw [hW0]
  rw [hb]
  refine range_box rfl (by omega) (gf := 97) (lb := #[.pointer (some ⟨b + 1 + 1 + 1, 0, none⟩), .pointer (some ⟨b + 1 + 1, 0, none⟩), .pointer (some ⟨b + 1 + 1 + 2, 0, none⟩)]) rfl trivial (enters_of Tryz.func97 (by kernel_rfl) rfl)
    (b := b + 1 + 1) (e := b + 1 + 1 + 3) (T := cutOf 47 s) (by omega) (by omega) (split_seq _ (by omega) (b + 1 + 1) s hs W0 (by omega) hbx) rfl
    (fun pre W => (NumAt W b 0 ∧ NumAt W (b + 1) pre.length ∧ pre.length ≤ 4 ∧ ∀ x ∈ pre, nf x = 0) ∧ Below b w W)
    (fun _ W => (NumAt W b 1 ∧ pf s = 1) ∧ Below b w W)
    (OwnFrom.and (Own.from (fun _ _ _ _ hs hg hr => ⟨hs.1.kept hg hr, hs.2.1.kept hg hr, hs.2.2⟩) _) (ownFrom_below (Nat.le_of_eq hb.symm) (by omega)))
    (OwnFrom.and (Own.from (fun _ _ _ _ hs hg hr => ⟨hs.1.kept hg hr, hs.2⟩) _) (ownFrom_below (Nat.le_of_eq hb.symm) (by omega)))
    ⟨fun _ _ v q => ⟨⟨q.1.1.other (by omega) v, q.1.2.1.other (by omega) v, q.1.2.2⟩, q.2.setCell (p := ⟨b + 1 + 1, 0, none⟩) (show b ≤ b + 1 + 1 by omega) _⟩, fun _ _ q => ⟨q.1, q.2.drew⟩⟩
    ⟨fun _ _ v q => ⟨⟨q.1.1.other (by omega) v, q.1.2⟩, q.2.setCell (p := ⟨b + 1 + 1, 0, none⟩) (show b ≤ b + 1 + 1 by omega) _⟩, fun _ _ q => ⟨q.1, q.2.drew⟩⟩
    ⟨⟨hN0, hN1, by simp, fun x hx => by cases hx⟩, hB0⟩
    (fun x => { tmps := #[.string s, undef, .pointer (some ⟨b, 0, none⟩), .pointer (some ⟨b + 1, 0, none⟩), .string x, .string s, .func (.func 97) #[] #[.pointer (some ⟨b + 1 + 1 + 1, 0, none⟩), .pointer (some ⟨b + 1 + 1, 0, none⟩), .pointer (some ⟨b + 1 + 1 + 2, 0, none⟩)], .string x, undef, undef, undef, undef, undef, undef, undef, undef, undef], defers := [] }) ?assign ?body ?done ?stop
  case assign =>
    intro l x W K hK
    gi_wp2
    simpa using hK
  case body =>
    rintro l pre x W ⟨⟨q0, q1, q4, qa⟩, qB⟩ hpx
    rw [hz]
    have c0 := q0.1
    have f0 := q0.2
    have c1 := q1.1
    have f1 := q1.2
    have hm : x ∈ cutOf 47 s := hpx.subset (by simp)
    have hl : pre.length + 1 ≤ (cutOf 47 s).length := by have := hpx.length_le; simpa using this
    have n0 := q0.other (c := b + 1) (by omega) (.int .i64 ((pre.length : Int) + 1))
    have n1 := q1.set ((pre.length : Int) + 1)
    have nB := qB.setCell (p := ⟨b + 1, 0, none⟩) (show b ≤ b + 1 by omega) (.int .i64 ((pre.length : Int) + 1))
    have kO := KeepsOthers.setCell W ⟨b + 1, 0, none⟩ (.int .i64 ((pre.length : Int) + 1))
    have kb : ∀ k, b + 1 + 1 ≤ k → k < b + 1 + 1 + 3 → (W.setCell ⟨b + 1, 0, none⟩ (.int .i64 ((pre.length : Int) + 1))).heap[k]? = W.heap[k]? := fun k _ _ => setCell_block (by omega)
    obtain ⟨W1, hW1⟩ : ∃ W1, W.setCell ⟨b + 1, 0, none⟩ (.int .i64 ((pre.length : Int) + 1)) = W1 := ⟨_, rfl⟩
    rw [hW1] at n0 n1 nB kO kb
    have d0 := n0.1
    have g0 := n0.2
    have d1 := n1.1
    have fin1 : pf s = 1 → ∀ a, roundLeft (b + 1 + 1 + 3) (b + 1 + 1) (b + 1 + 1 + 3) (fun pre W => (NumAt W b 0 ∧ NumAt W (b + 1) pre.length ∧ pre.length ≤ 4 ∧ ∀ x ∈ pre, nf x = 0) ∧ Below b w W) (fun _ W => (NumAt W b 1 ∧ pf s = 1) ∧ Below b w W) (pre ++ [x]) W .ret a (W1.setCell ⟨b, 0, none⟩ (.int .i64 1)) := fun e _ =>
      .inr ⟨rfl, (kO.trans (KeepsOthers.setCell _ _ _)).from _, ⟨n0.set 1, e⟩, nB.setCell (p := ⟨b, 0, none⟩) (Nat.le_refl _) _⟩
    by_cases h4 : pre.length = 4
    · have e1 : ∀ a, Hid (roundLeft _ _ _ _ _ _ _ _ _ _) := fun a => fin1 (pf_many (by omega)) a
      have h4' : (pre.length : Int) = 4 := by omega
      have hW5 : W.setCell ⟨b + 1, 0, none⟩ (.int .i64 5) = W1 := by rw [← hW1, h4']; rfl
      clear fin1 hNf
      gi_wp2
      refine ⟨trivial, ?_⟩
      gi_wp2
      exact (e1 _).out
    · have h5 : (pre.length : Int) + 1 ≤ 4 := by omega
      have h5' : ¬ 4 < (pre.length : Int) + 1 := by omega
      by_cases hx : nf x = 0
      · have e2 : ∀ a, Hid (roundLeft (b + 1 + 1 + 3) (b + 1 + 1) (b + 1 + 1 + 3) (fun pre W => (NumAt W b 0 ∧ NumAt W (b + 1) pre.length ∧ pre.length ≤ 4 ∧ ∀ x ∈ pre, nf x = 0) ∧ Below b w W) (fun _ W => (NumAt W b 1 ∧ pf s = 1) ∧ Below b w W) (pre ++ [x]) W .normal a W1) := fun _ =>
          .inl ⟨rfl, kO.from _, kb, ⟨n0, by simpa using n1, by simp; omega, fun y hy => by
            rcases List.mem_append.1 hy with h | h
            · exact qa y h
            · rw [List.mem_singleton.1 h]; exact hx⟩, nB⟩
        have hN := fun w => hNf x w
        rw [hx] at hN
        clear fin1 hNf hx qa
        gi_wp2_with (refine ⟨trivial, ?_⟩; gi_at_call 65; refine (CallsIn.inRound l (callsIn_wide.2 (hN _))).mono ?_; rintro e w' ⟨rfl, rfl⟩)
        exact (e2 _).out
      · have e1 : ∀ a, Hid (roundLeft _ _ _ _ _ _ _ _ _ _) := fun a => fin1 (pf_bad hm hx) a
        have hx' : (nf x != 0) = true := by simpa using hx
        have hN := fun w => hNf x w
        obtain ⟨v, hv⟩ : ∃ v, nf x = v := ⟨_, rfl⟩
        rw [hv] at hN hx'
        clear fin1 hNf hx qa hv
        gi_wp2_with (refine ⟨trivial, ?_⟩; gi_at_call 65; refine (CallsIn.inRound l (callsIn_wide.2 (hN _))).mono ?_; rintro e w' ⟨rfl, rfl⟩)
        exact (e1 _).out
  case done =>
    rintro D W hD ⟨⟨q0, q1, q4, qa⟩, qB⟩ hK
    have c0 := q0.1
    have f0 := q0.2
    have HP : Hid (pf s = 0) := pf_ok q4 qa
    have hK2 := (KeepsOthers.setCell W ⟨b, 0, none⟩ (.int .i64 0)).same D _ hK rfl
    have q2 := q0.set 0
    have B2 := qB.setCell (p := ⟨b, 0, none⟩) (Nat.le_refl _) (.int .i64 0)
    clear q1 q4 qa
    gi_wp2
    refine ⟨by simp, .inl ⟨_, _, rfl, run_takeDeferred hK2, ?_⟩⟩
    have e0 := cell_kept q2.1 (grownBy_putObj' _ D (.deferred none)) (fun r e => by cases e; exact ⟨_, hK2, rfl⟩)
    refine ⟨.int .i64 0, ?_, ret_int HP.out.symm, ?_⟩
    · simp [results, Tryz.results47, go_sem, e0]
    · rw [hb]
      exact B2.trans (belowK_b (w := w) (Nat.le_of_eq hb.symm) _ D _ _ (by omega) hK2 rfl rfl)
  case stop =>
    rintro D pre W hD ⟨⟨q0, q1⟩, qB⟩ hK
    have HP : Hid (pf s = 1) := q1
    clear q1
    gi_wp2
    refine ⟨by simp, .inl ⟨_, _, rfl, run_takeDeferred hK, ?_⟩⟩
    have e0 := cell_kept q0.1 (grownBy_putObj' _ D (.deferred none)) (fun r e => by cases e; exact ⟨_, hK, rfl⟩)
    refine ⟨.int .i64 1, ?_, ret_int HP.out.symm, ?_⟩
    · simp [results, Tryz.results47, go_sem, e0]
    · rw [hb]
      exact qB.trans (belowK_b (w := w) (Nat.le_of_eq hb.symm) _ D _ _ (by omega) hK rfl rfl)
end Go.Proofs.YtkgcpndnlefkoaaGreatDoor
