/- The contract of l4Partner. No statement is proved here. -/
import Derived.Test.YtciddfpkcdicaaaDoorRows
import Derived.Test.YtciddfpkcdicaaaDoorLemQ
import Derived.Test.YtciddfpkcdicaaaDoorComQ
import Derived.Test.YtciddfpkcdicaaaDoorDTabQ
import Derived.Test.YtciddfpkcdicaaaDoorSTabQ
import Derived.Test.YtciddfpkcdicaaaDoorPairsQ
import Derived.Test.YtciddfpkcdicaaaDoorChgQ
import Derived.Test.YtciddfpkcdicaaaDoorHkTQ
import Derived.Test.YtciddfpkcdicaaaDoorKpMQ
import Derived.Test.YtciddfpkcdicaaaDoorKpBQ
import Derived.WalkKit
import Derived.ProofKit
import Derived.Below
import Derived.WalkSpells
import Derived.Deep.QuietTactic
import Derived.BigQuiet
import Derived.Test.YtciddfpkcdicaaaDoorKpDQ
import Derived.Deep.RegionWith
import Derived.Deep.RegionHeld
import Derived.Deep.Cut
import Derived.Deep.CutRange
namespace Go.Proofs.YtciddfpkcdicaaaDoor
open Go.ChangeShapes Go.WideShapes Go.ChangeAt Go.RowKit

/-- A row of numbers, told by a function. -/
def rowI (f : Nat → Int) (m : Nat) : List Value := (List.range m).map fun j => .int .i64 (f j)
theorem rowI_length (f : Nat → Int) (m : Nat) : (rowI f m).length = m := by simp [rowI]
theorem rowI_at (f : Nat → Int) (m j : Nat) (h : j < m) : (rowI f m)[j]? = some (.int .i64 (f j)) := by simp [rowI, h]
theorem rowI_congr {f g : Nat → Int} {m : Nat} (h : ∀ j, j < m → f j = g j) : rowI f m = rowI g m := by
  unfold rowI
  apply List.map_congr_left
  intro j hj
  rw [h j (List.mem_range.1 hj)]
theorem rowI_set (f : Nat → Int) (m i : Nat) (v : Int) : (rowI f m).set i (.int .i64 v) = rowI (fun j => if j = i then v else f j) m := by
  apply List.ext_getElem?
  intro j
  by_cases hj : j < m
  · rw [rowI_at _ _ _ hj]
    by_cases e : j = i
    · subst e
      rw [List.getElem?_set_self (by rw [rowI_length]; exact hj), if_pos rfl]
    · rw [List.getElem?_set_ne (by omega), rowI_at _ _ _ hj, if_neg e]
  · rw [List.getElem?_eq_none (by rw [List.length_set, rowI_length]; omega), List.getElem?_eq_none (by rw [rowI_length]; omega)]
theorem rowI_zero (m : Nat) : (madeCells (Value.int .i64 0).cells m).toList = rowI (fun _ => 0) m := by
  apply List.ext_getElem?
  intro j
  by_cases hj : j < m
  · rw [rowI_at _ _ _ hj]; simp [madeCells, hj, Value.cells, Nat.mod_one]
  · rw [List.getElem?_eq_none (show (rowI (fun _ => 0) m).length ≤ j by rw [rowI_length]; omega)]
    simp [madeCells, hj]
theorem rowI_neg (k N : Nat) : rowI (fun j => if j = k then -1 else if j < k then -1 else 0) N = rowI (fun j => if j < k + 1 then -1 else 0) N := by
  apply rowI_congr
  intro j _
  by_cases e : j = k
  · rw [if_pos e, if_pos (by omega)]
  · rw [if_neg e]
    by_cases e2 : j < k
    · rw [if_pos e2, if_pos (by omega)]
    · rw [if_neg e2, if_neg (by omega)]
/-- Numbers that can be read. -/
def IB (B : Nat) (w : World) (a : Option Addr) (f : Nat → Int) (n : Nat) : Prop := ∀ k, k < n → ∃ g, a = some ⟨g, 0, none⟩ ∧ g < B ∧ w.cell? ⟨g, k, none⟩ = some (.int .i64 (f k))
theorem IB.below {B : Nat} {w w' : World} {a : Option Addr} {f : Nat → Int} {n : Nat} (h : IB B w a f n) (hb : Below w.heap.size w w') : IB B w' a f n := fun k hk => by
  obtain ⟨g, e, hg, d⟩ := h k hk
  exact ⟨g, e, hg, (Fr.ofBelow (lo := 0) (hi := 0) hb).cell d (.inr (Nat.zero_le _))⟩
theorem IB.belowAt {B C : Nat} {w w' : World} {a : Option Addr} {f : Nat → Int} {n : Nat} (h : IB B w a f n) (hB : B ≤ C) (hb : Below C w w') : IB B w' a f n := fun k hk => by
  obtain ⟨g, e, hg, d⟩ := h k hk
  have hl : g < C := by omega
  exact ⟨g, e, hg, (hb.cell (p := ⟨g, k, none⟩) hl).trans d⟩
theorem IB.mono {B B' : Nat} {w : World} {a : Option Addr} {f : Nat → Int} {n : Nat} (h : IB B w a f n) (hb : B ≤ B') : IB B' w a f n := fun k hk => by
  obtain ⟨g, e, hg, d⟩ := h k hk
  exact ⟨g, e, by omega, d⟩
theorem IB.of {w : World} {base g c n : Nat} {f : Nat → Int} (h : w.ownsRow base 2 1 (.slice (some ⟨g, 0, none⟩) n c) n (rowI f n)) (hg : g < w.heap.size) : IB w.heap.size w (some ⟨g, 0, none⟩) f n := fun k hk =>
  ⟨g, rfl, hg, by rw [h.cellAt k (by omega), rowI_at _ _ _ hk]⟩
def PtPost (w : World) (f : Nat → Int) (n : Nat) (e : Ending) (w' : World) : Prop := ∃ a c, e = .returned (.slice a n c) ∧ IB w'.heap.size w' a f n ∧ Below w.heap.size w w'
theorem part_take {M : List (Nat × Nat)} (hM : M.Pairwise fun p q => p.1 < q.1 ∧ p.2 < q.2) {k : Nat} (hk : k < M.length) (j : Nat) : part (M.take (k + 1)) j = if j = (M.getD k (0, 0)).1 then ((M.getD k (0, 0)).2 : Int) else part (M.take k) j := by
  have e : M.take (k + 1) = M.take k ++ [M.getD k (0, 0)] := by rw [List.take_succ_eq_append_getElem hk]; simp [List.getD, hk]
  rw [e, part_snoc]
  intro q hq
  obtain ⟨i, hi, rfl⟩ := List.getElem_of_mem hq
  have hi' : i < k := by rw [List.length_take] at hi; omega
  have := List.pairwise_iff_getElem.1 hM i k (by omega) hk hi'
  simp only [List.getD, List.getElem?_eq_getElem hk, Option.getD_some, List.getElem_take]
  omega
set_option maxRecDepth 20000 in
set_option maxHeartbeats 4000000 in
theorem l4Partner (a1 a2 : Option Addr) (c1 c2 : Nat) (xs ys : List ByteArray) (w : World) (h1 : SS w a1 xs) (h2 : SS w a2 ys) (n1 : xs.length ≤ 100) (n2 : ys.length ≤ 100) :
    Calls Tryd.prog 50 #[.slice a1 xs.length c1, .slice a2 ys.length c2] w fun e w' => PtPost w (part (mat xs ys 0 0)) xs.length e w' := by
  obtain ⟨i0, hi, hz0, hz1, hz2⟩ := info_parts infoI64
  have hM := fun W p q => l2Match a1 a2 c1 c2 xs ys W p q n1 n2
  have hri := mat_rises xs ys _ 0 0 (Nat.le_refl _)
  have hin := mat_in xs ys _ 0 0 (Nat.le_refl _)
  have hml := mat_length xs ys _ 0 0 (Nat.le_refl _)
  have hcl := (comAt_le xs ys 0 0).1
  have hMl : (mat xs ys 0 0).length ≤ 100 := by omega
  generalize mat xs ys 0 0 = M at hM hri hin hMl ⊢
  clear hml hcl
  obtain ⟨N, hN⟩ : ∃ N, xs.length = N := ⟨_, rfl⟩
  have s1 := h1.toB
  have s2 := h2.toB
  rw [hN] at hM hin n1 ⊢
  go_enter Tryd.func50, Tryd.ntmps50
  go_wp2_with (first | (at_make; refine wpList_make_full _ rfl (.tmp 11) (.tmp 11) 90 rfl w.heap.size 2 i0 (.int .i64 0) 1 Tryd.underlying90 hi hz0 hz1 .i64 .i64 _ _ N rfl rfl (by omega) (by omega) (by rw [hz2]; omega) (by unfold maxLen; omega) (Nat.le_refl _) ?_; intro w1 hown1 hg1))
  have hown : w1.ownsRow w.heap.size 2 1 (.slice (some ⟨w.heap.size, 0, none⟩) N N) N (rowI (fun j => if j < 0 then -1 else 0) N) := by
    have e : rowI (fun j => if j < 0 then -1 else 0) N = rowI (fun _ => 0) N := rowI_congr (fun j _ => if_neg (by omega))
    rw [e, ← rowI_zero]
    have h' := hown1
    rw [Nat.mul_one] at h'
    exact h'
  have hbel : Below w.heap.size w w1 := (Below.refl _ _).grown hg1 (Nat.le_refl _) (by intro k h; cases h)
  clear hown1 hg1
  go_loopw [6] (fun i wr => ∃ k : Nat, k ≤ N ∧ i = .int .i64 k ∧ wr.ownsRow w.heap.size 2 1 (.slice (some ⟨w.heap.size, 0, none⟩) N N) N (rowI (fun j => if j < k then -1 else 0) N) ∧ Below w.heap.size w wr) (fun i _ => N - (intOf i).toNat)
  case atStart => exact ⟨0, Nat.zero_le _, rfl, hown, hbel⟩
  case round =>
    clear hown hbel
    obtain ⟨k, hk, rfl, howr, hbr⟩ := hrel
    have hsz := hbr.size
    by_cases hlt : k < N
    · have q : (k : Int) < (N : Int) := by omega
      have e0 : wr.cell? ⟨w.heap.size, k, none⟩ = some (.int .i64 (if k < k then -1 else 0)) := by rw [howr.cellAt k (by omega), rowI_at _ _ _ hlt]
      have f0 := howr.frozenAt k
      have st := (howr.stored k (.int .i64 (-1))).1
      rw [rowI_set, rowI_neg] at st
      have HS : Hid (World.ownsRow _ _ _ _ _ _ _) := st
      have HB : Hid (Below w.heap.size w (wr.setCell ⟨w.heap.size, k, none⟩ (.int .i64 (-1)))) := hbr.setCell (p := ⟨w.heap.size, k, none⟩) (Nat.le_refl _) _
      clear st howr hbr
      go_wp2
      go_roundw
      case rel => exact ⟨k + 1, by omega, by go_num, HS.out, HB.out⟩
      case measure => first | (simp [intOf]; omega) | simp [intOf]
    · have q : ¬ (k : Int) < (N : Int) := by omega
      obtain rfl : k = N := by omega
      have e : rowI (fun j => if j < k then -1 else 0) k = rowI (part (M.take 0)) k := rowI_congr (fun j hj => by rw [if_pos hj, List.take_zero, part_nil])
      rw [e] at howr
      have S1 := (s1.below (hbr.mono (Nat.le_refl _)) )
      have S2 := (s2.below (hbr.mono (Nat.le_refl _)) )
      obtain ⟨V, hV⟩ : ∃ V, wr = V := ⟨_, rfl⟩
      subst hV
      clear e
      go_wp2_with fail
      refine (hM _ (S1.toSS hsz) (S2.toSS hsz)).mono ?_; rintro e w2 ⟨v1, v2, rfl, hP, b2⟩
      have z2 := b2.size
      have hl1 : w.heap.size < wr.heap.size := by
        rcases howr.2 with ⟨h', _⟩ | ⟨g, cap, cur, h', _, hh, _⟩
        · cases h'
        · simp only [Value.slice.injEq, Option.some.injEq, Addr.mk.injEq] at h'
          have := (Array.getElem?_eq_some_iff.1 hh).1
          omega
      have own2 := howr.kept (grownOfBelow b2 none) (.inr (by simp [Value.ownBlock]))
      have B2 := below_step hbr hsz b2
      have hr1 : ∀ j, v1.ownBlock = some j → w.heap.size < j := fun j hj => Nat.lt_of_lt_of_le hl1 (hP.o1.lt j hj).1
      have hr2 : ∀ j, v2.ownBlock = some j → w.heap.size < j := fun j hj => Nat.lt_of_lt_of_le hl1 (hP.o2.lt j hj).1
      obtain ⟨g1, d1, g2, d2, rfl, rfl, R1⟩ := hP.toRPk
      clear hM S1 S2 s1 s2 h1 h2 hP b2 howr hbr
      go_wp2
      go_loopw [9] (fun i wr2 => ∃ n : Nat, n ≤ M.length ∧ i = .int .i64 n ∧ wr2.ownsRow w.heap.size 2 1 (.slice (some ⟨w.heap.size, 0, none⟩) k k) k (rowI (part (M.take n)) k) ∧ RPk w2.heap.size wr2 g1 g2 M ∧ Below w.heap.size w wr2 ∧ w2.heap.size ≤ wr2.heap.size) (fun i _ => M.length - (intOf i).toNat)
      case atStart => exact ⟨0, Nat.zero_le _, rfl, own2, R1, B2, Nat.le_refl _⟩
      case round =>
        clear own2 R1 B2
        obtain ⟨n, hn, rfl, hown, hR, hbel, hz⟩ := hrel
        by_cases hln : n < M.length
        · have qn : (n : Int) < (M.length : Int) := by omega
          obtain ⟨k1, k2, rfl, rfl, l1, l2, m1, m2⟩ := hR n hln
          have hpt := fun j => part_take hri hln j
          have hx := hin _ (by have e := List.getElem_mem hln; exact (show M.getD n (0, 0) ∈ M by rw [List.getD, List.getElem?_eq_getElem hln]; exact e))
          have hk1 := hr1 k1 rfl
          have hk2 := hr2 k2 rfl
          obtain ⟨C, hC⟩ : ∃ C, M.getD n (0, 0) = C := ⟨_, rfl⟩
          obtain ⟨P, Q⟩ := C
          rw [hC] at m1 m2 hx
          simp only [hC] at hpt
          simp only [] at m1 m2 hx
          obtain ⟨_, _, hPk, _, _⟩ := hx
          have qP : (P : Int) < (k : Int) := by omega
          have e0 : wr.cell? ⟨w.heap.size, P, none⟩ = some (.int .i64 (part (M.take n) P)) := by rw [hown.cellAt P (by omega), rowI_at _ _ _ hPk]
          have f0 := hown.frozenAt P
          have st := (hown.stored P (.int .i64 (Q : Int))).1
          rw [rowI_set, rowI_congr (g := part (M.take (n + 1))) (fun j _ => (hpt j).symm)] at st
          have HS : Hid (World.ownsRow _ _ _ _ _ _ _) := st
          have HB : Hid (Below w.heap.size w (wr.setCell ⟨w.heap.size, P, none⟩ (.int .i64 (Q : Int)))) := hbel.setCell (p := ⟨w.heap.size, P, none⟩) (Nat.le_refl _) _
          have HRR : Hid (RPk w2.heap.size (wr.setCell ⟨w.heap.size, P, none⟩ (.int .i64 (Q : Int))) (some ⟨k1, 0, none⟩) (some ⟨k2, 0, none⟩) M) := fun i hi => by
            obtain ⟨j1, j2, e1, e2, q1, q2, u1, u2⟩ := hR i hi
            have G := grownSet wr w.heap.size P (.int .i64 (Q : Int))
            cases e1
            cases e2
            exact ⟨k1, k2, rfl, rfl, l1, l2, G.cell u1 (fun e => by have := Option.some.inj e; simp only [] at this; omega), G.cell u2 (fun e => by have := Option.some.inj e; simp only [] at this; omega)⟩
          have HZ : Hid (w2.heap.size ≤ (wr.setCell ⟨w.heap.size, P, none⟩ (.int .i64 (Q : Int))).heap.size) := by show _ ≤ _; simpa using hz
          clear st hpt hown hR hbel hC
          go_wp2
          go_region
          go_wp2
          go_roundw
          case rel => exact ⟨n + 1, by omega, by go_num, by first | exact HS.out | exact HS.out.drew, by first | exact HRR.out | exact fun i hi => HRR.out i hi, by first | exact HB.out | exact below_drew HB.out, HZ.out⟩
          case measure => first | (simp [intOf]; omega) | simp [intOf]
        · have qn : ¬ (n : Int) < (M.length : Int) := by omega
          rw [List.take_of_length_le (by omega)] at hown
          have HF : Hid (PtPost w (part M) k (.returned (.slice (some ⟨w.heap.size, 0, none⟩) k k)) wr) := ⟨_, _, rfl, IB.of hown (by omega), hbel⟩
          clear hown hR hbel
          go_wp2
          go_ret
          exact HF.out
end Go.Proofs.YtciddfpkcdicaaaDoor
/- The contract of l4Chunks. No statement is proved here. -/
namespace Go.Proofs.YtciddfpkcdicaaaDoor
open Go.ChangeShapes Go.WideShapes Go.ChangeAt Go.RowKit

/-- Where there is no list there is no room. -/
structure N3 (a1 a2 a3 : Option Addr) (c1 c2 c3 : Nat) : Prop where
  z1 : a1 = none → c1 = 0
  z2 : a2 = none → c2 = 0
  z3 : a3 = none → c3 = 0
theorem segA_none {a : Option Addr} {c f : Nat} (h : a = none → c = 0) (e : segA a c f = none) : c - f = 0 := by
  unfold segA at e
  split at e
  · omega
  · cases a with
    | none => have := h rfl; omega
    | some x => cases e
theorem putSeg (base : Nat) (v : Value) (L : List Ck) (sl : Nat → Value) (a1 a2 a3 : Option Addr) (c1 c2 c3 : Nat) (x1 x2 x3 : List ByteArray) (f0 f1 f2 t0 t1 t2 : Nat) (w : World) (B : Nat) (hO : KO base w v L sl) (hb : base ≤ w.heap.size) (hX : X3 B w a1 a2 a3 c1 c2 c3 x1 x2 x3) (hB : B ≤ w.heap.size) (hZ : Z3 c1 c2 c3 x1 x2 x3) (hN : N3 a1 a2 a3 c1 c2 c3) (hL : L.length ≤ 1048576)
    (h1 : le3 (f0, f1, f2) (t0, t1, t2)) (h2 : le3 (t0, t1, t2) (x1.length, x2.length, x3.length)) :
    Calls Tryd.prog 51 #[v, segV a1 c1 f0 t0, segV a2 c2 f1 t1, segV a3 c3 f2 t2] w fun e w' => PutP base v (L ++ ptK x1 x2 x3 ((f0, f1, f2), (t0, t1, t2))) w e w' := by
  obtain ⟨h10, h11, h12⟩ := h1
  obtain ⟨h20, h21, h22⟩ := h2
  simp only [] at h10 h11 h12 h20 h21 h22
  have l1 : (sgK x1 f0 t0).length = t0 - f0 := sgK_len h20
  have l2 : (sgK x2 f1 t1).length = t1 - f1 := sgK_len h21
  have l3 : (sgK x3 f2 t2).length = t2 - f2 := sgK_len h22
  have q1 := segSSB hX.s1 f0 t0 c1 h10 h20 hZ.k1
  have q2 := segSSB hX.s2 f1 t1 c2 h11 h21 hZ.k2
  have q3 := segSSB hX.s3 f2 t2 c3 h12 h22 hZ.k3
  have hA := l4PutW base v L sl (segA a1 c1 f0) (segA a2 c2 f1) (segA a3 c3 f2) (c1 - f0) (c2 - f1) (c3 - f2) (sgK x1 f0 t0) (sgK x2 f1 t1) (sgK x3 f2 t2) w hO hb ⟨q1.mono hB, segA_none hN.z1⟩ ⟨q2.mono hB, segA_none hN.z2⟩ ⟨q3.mono hB, segA_none hN.z3⟩ (by have := hZ.n1; omega) (by have := hZ.n2; omega) (by have := hZ.n3; omega) hL
  rw [l1, l2, l3] at hA
  exact hA
/-- The pieces that are still to come where a run of kept lines may begin. -/
def rest3 (A B : Nat → Int) (E : T3) (N : Nat) (f : T3) : List (T3 × T3) := (f, ad f (runF A B (N - f.1) f)) :: segs E (ad f (runF A B (N - f.1) f)) (keptR A B (f.1 + runF A B (N - f.1) f) (N - (f.1 + runF A B (N - f.1) f)))
theorem rest_ok {A B : Nat → Int} {E : T3} {N : Nat} (G : T3 × T3 → Prop) (h0 : G ((0, 0, 0), (0, 0, 0))) (hok : ∀ x ∈ segs E (0, 0, 0) (keptR A B 0 N), G x) : ∀ x ∈ rest3 A B E N (0, 0, 0), G x := by
  unfold rest3
  simp only [Nat.sub_zero, Nat.zero_add]
  cases N with
  | zero =>
    intro x hx
    rcases List.mem_cons.1 hx with rfl | hx
    · exact h0
    · exact hok x hx
  | succ n =>
    by_cases h : A 0 = 0 ∧ B 0 = 0
    · have hb : both A B 0 = true := by unfold both; rw [h.1, h.2]; rfl
      have e := segs_run (E := E) (f := (0, 0, 0)) (n := n) hb
      rw [h.1, h.2] at e
      rw [e] at hok
      simp only [Int.toNat_zero, Nat.zero_add] at hok
      exact fun x hx => hok x (List.mem_cons_of_mem _ hx)
    · have hz : runF A B (n + 1) (0, 0, 0) = 0 := runF_no n h
      rw [hz, ad_zero, Nat.sub_zero]
      intro x hx
      rcases List.mem_cons.1 hx with rfl | hx
      · exact h0
      · exact hok x hx
theorem rest_start {A B : Nat → Int} {E : T3} {N : Nat} {α : Type} (pt : T3 × T3 → List α) (h0 : ∀ p, pt (p, p) = []) : (segs E (0, 0, 0) (keptR A B 0 N)).flatMap pt = (rest3 A B E N (0, 0, 0)).flatMap pt := by
  rw [segs_start A B E N pt h0]
  unfold rest3
  simp only [Nat.sub_zero, Nat.zero_add]
theorem ptK_self (x1 x2 x3 : List ByteArray) (p : T3) : ptK x1 x2 x3 (p, p) = [] := by
  unfold ptK sgK
  simp only [Nat.sub_self, List.take_zero]
  rfl
theorem runF_ad {A B : Nat → Int} {N : Nat} {f : T3} {n : Nat} (hn : f.1 + n < N) (h : A (f.1 + n) = ((f.2.1 + n : Nat) : Int) ∧ B (f.1 + n) = ((f.2.2 + n : Nat) : Int)) : runF A B (N - f.1 - n) (ad f n) = runF A B (N - f.1 - (n + 1)) (ad f (n + 1)) + 1 := by
  obtain ⟨m, hm⟩ : ∃ m, N - f.1 - n = m + 1 := ⟨N - f.1 - n - 1, by omega⟩
  rw [hm, runF_yes m h, show N - f.1 - (n + 1) = m by omega]
  rfl
theorem runF_ad_no {A B : Nat → Int} {N : Nat} {f : T3} {n : Nat} (h : f.1 + n < N → ¬ (A (f.1 + n) = ((f.2.1 + n : Nat) : Int) ∧ B (f.1 + n) = ((f.2.2 + n : Nat) : Int))) : runF A B (N - f.1 - n) (ad f n) = 0 := by
  cases e : N - f.1 - n with
  | zero => rfl
  | succ m => exact runF_no m (h (by omega))
end Go.Proofs.YtciddfpkcdicaaaDoor
