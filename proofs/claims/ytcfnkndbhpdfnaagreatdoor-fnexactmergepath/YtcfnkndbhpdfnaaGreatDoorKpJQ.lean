/- The chunks of three texts: what is told of them whole. Plain mathematics. No statement is proved here. -/
import Derived.Test.YtcfnkndbhpdfnaaGreatDoorKpDQ
namespace Go.Proofs.YtcfnkndbhpdfnaaGreatDoor
open Go.ChangeShapes Go.WideShapes Go.ChangeAt Go.RowKit
def kpL (x1 x2 x3 : List ByteArray) : List T3 := keptR (part (mat x1 x2 0 0)) (part (mat x1 x3 0 0)) 0 x1.length
def ckT (x1 x2 x3 : List ByteArray) : List Ck := (segs (x1.length, x2.length, x3.length) (0, 0, 0) (kpL x1 x2 x3)).flatMap (ptK x1 x2 x3)
theorem kp_keep (x1 x2 x3 : List ByteArray) : keep3 (mat x1 x2 0 0) (mat x1 x3 0 0) = kpL x1 x2 x3 := by
 have r1 := mat_rises x1 x2 _ 0 0 (Nat.le_refl _)
 have r2 := mat_rises x1 x3 _ 0 0 (Nat.le_refl _)
 have i1 := mat_in x1 x2 _ 0 0 (Nat.le_refl _)
 have i2 := mat_in x1 x3 _ 0 0 (Nat.le_refl _)
 exact keep3_kept x1.length 0 _ _ (r1.imp fun h => h.1) (r2.imp fun h => h.1) (fun p hp => by have := i1 p hp; omega) (fun p hp => by have := i2 p hp; omega)
theorem kp_mem {x1 x2 x3 : List ByteArray} {p : T3} (h : p ∈ kpL x1 x2 x3) : p.1 < x1.length /\ p.2.1 < x2.length /\ p.2.2 < x3.length := by
 obtain ⟨_, h1, h2, h3⟩ := keptR_mem _ _ p h
 refine ⟨by omega, ?_, ?_⟩
 ·rcases part_cases (mat x1 x2 0 0) p.1 with e | ⟨j, e, hm⟩
  ·omega
  ·have := mat_in x1 x2 _ 0 0 (Nat.le_refl _) _ hm
   simp only [] at this
   omega
 ·rcases part_cases (mat x1 x3 0 0) p.1 with e | ⟨j, e, hm⟩
  ·omega
  ·have := mat_in x1 x3 _ 0 0 (Nat.le_refl _) _ hm
   simp only [] at this
   omega
theorem kp_rises (x1 x2 x3 : List ByteArray) : (kpL x1 x2 x3).Pairwise lt3 := by
 have r1 := mat_rises x1 x2 _ 0 0 (Nat.le_refl _)
 have r2 := mat_rises x1 x3 _ 0 0 (Nat.le_refl _)
 exact keptR_rises _ _ (fun x y _ hxy _ hx hy => part_mono r1 hxy hx hy) (fun x y _ hxy _ hx hy => part_mono r2 hxy hx hy)
theorem kp_ok (x1 x2 x3 : List ByteArray) : ∀ x ∈ segs (x1.length, x2.length, x3.length) (0, 0, 0) (kpL x1 x2 x3), le3 x.1 x.2 /\ le3 x.2 (x1.length, x2.length, x3.length) :=
 segs_ok _ _ _ _ (Nat.le_refl _) ⟨Nat.zero_le _, Nat.zero_le _, Nat.zero_le _⟩ (kp_rises x1 x2 x3) (fun p hp => by
  have h := kp_mem hp
  exact ⟨⟨Nat.zero_le _, Nat.zero_le _, Nat.zero_le _⟩, ⟨by show p.1 + 1 <= x1.length; omega, by show p.2.1 + 1 <= x2.length; omega, by show p.2.2 + 1 <= x3.length; omega⟩⟩)
theorem kp_len (x1 x2 x3 : List ByteArray) : (kpL x1 x2 x3).length <= x1.length := by
 rw [<- kp_keep]
 have h1 := keep3_len (mat x1 x2 0 0) (mat x1 x3 0 0)
 have h2 := mat_length x1 x2 _ 0 0 (Nat.le_refl _)
 have h3 := (comAt_le x1 x2 0 0).1
 omega
theorem kp_small {x1 x2 x3 : List ByteArray} (n1 : x1.length <= 1048576) (n2 : x2.length <= 1048576) (n3 : x3.length <= 1048576) : T3s (kpL x1 x2 x3) := fun p hp => by
 have := kp_mem hp
 omega
theorem segs_len (E : T3) : ∀ (n : Nat) (l : List T3) (f : T3), l.length <= n -> (segs E f l).length <= 2 * l.length + 1 := by
 intro n
 induction n with
 | zero =>
  intro l f h
  have e : l = [] := List.length_eq_zero_iff.1 (by omega)
  subst e
  rw [segs_nil]; simp
 | succ n ih =>
  intro l f h
  cases l with
  | nil => rw [segs_nil]; simp
  | cons p r =>
   rw [segs_cons]
   have h1 : (r.drop (tog p r)).length <= r.length := by rw [List.length_drop]; omega
   have h2 := ih (r.drop (tog p r)) (ad p (tog p r + 1)) (by simp at h; omega)
   simp only [List.length_cons] at h ⊢
   omega
theorem ptK_len (x1 x2 x3 : List ByteArray) (s : T3 × T3) : (ptK x1 x2 x3 s).length <= 1 := by
 unfold ptK putK
 split <;> simp
theorem flat_len {α β : Type} (f : α -> List β) (h : ∀ x, (f x).length <= 1) : ∀ (l : List α), (l.flatMap f).length <= l.length := by
 intro l
 induction l with
 | nil => simp
 | cons x l ih =>
  rw [List.flatMap_cons, List.length_append, List.length_cons]
  have := h x
  omega
theorem ckT_len (x1 x2 x3 : List ByteArray) : (ckT x1 x2 x3).length <= 2 * x1.length + 1 := by
 have h1 := flat_len (ptK x1 x2 x3) (ptK_len x1 x2 x3) (segs (x1.length, x2.length, x3.length) (0, 0, 0) (kpL x1 x2 x3))
 have h2 := segs_len (x1.length, x2.length, x3.length) _ (kpL x1 x2 x3) (0, 0, 0) (Nat.le_refl _)
 have h3 := kp_len x1 x2 x3
 unfold ckT
 omega
theorem ckT_mem {x1 x2 x3 : List ByteArray} {c : Ck} (h : c ∈ ckT x1 x2 x3) : (∀ s ∈ c.2.1, s ∈ x1) /\ (∀ s ∈ c.2.2.1, s ∈ x2) /\ (∀ s ∈ c.2.2.2, s ∈ x3) /\ c.2.1.length <= x1.length /\ c.2.2.1.length <= x2.length /\ c.2.2.2.length <= x3.length := by
 unfold ckT at h
 obtain ⟨s, _, hc⟩ := List.mem_flatMap.1 h
 unfold ptK putK at hc
 split at hc
 ·cases hc
 ·rw [List.mem_singleton] at hc
  subst hc
  have key : ∀ (xs : List ByteArray) (i j : Nat), (∀ s ∈ sgK xs i j, s ∈ xs) /\ (sgK xs i j).length <= xs.length := fun xs i j => by
   unfold sgK
   exact ⟨fun s hs => List.mem_of_mem_drop (List.mem_of_mem_take hs), by rw [List.length_take, List.length_drop]; omega⟩
  exact ⟨(key x1 _ _).1, (key x2 _ _).1, (key x3 _ _).1, (key x1 _ _).2, (key x2 _ _).2, (key x3 _ _).2⟩
theorem lf_bd {ss : List ByteArray} (h : lf ss = 0) : ss.length <= 100 /\ tot ss <= 2000 := by
 by_cases e : 100 < (ss.length : Int) \/ 2000 < tot ss
 ·rw [lf_many e] at h; exact absurd h (by decide)
 ·omega
end Go.Proofs.YtcfnkndbhpdfnaaGreatDoor
namespace Go.Proofs.YtcfnkndbhpdfnaaGreatDoor
open Go.ChangeShapes Go.WideShapes Go.ChangeAt Go.RowKit
def rowI (f : Nat -> Int) (m : Nat) : List Value := (List.range m).map fun j => .int .i64 (f j)
theorem rowI_length (f : Nat -> Int) (m : Nat) : (rowI f m).length = m := by simp [rowI]
theorem rowI_at (f : Nat -> Int) (m j : Nat) (h : j < m) : (rowI f m)[j]? = some (.int .i64 (f j)) := by simp [rowI, h]
theorem rowI_congr {f g : Nat -> Int} {m : Nat} (h : ∀ j, j < m -> f j = g j) : rowI f m = rowI g m := by
 unfold rowI
 apply List.map_congr_left
 intro j hj
 rw [h j (List.mem_range.1 hj)]
theorem rowI_set (f : Nat -> Int) (m i : Nat) (v : Int) : (rowI f m).set i (.int .i64 v) = rowI (fun j => if j = i then v else f j) m := by
 apply List.ext_getElem?
 intro j
 by_cases hj : j < m
 ·rw [rowI_at _ _ _ hj]
  by_cases e : j = i
  ·subst e
   rw [List.getElem?_set_self (by rw [rowI_length]; exact hj), if_pos rfl]
  ·rw [List.getElem?_set_ne (by omega), rowI_at _ _ _ hj, if_neg e]
 ·rw [List.getElem?_eq_none (by rw [List.length_set, rowI_length]; omega), List.getElem?_eq_none (by rw [rowI_length]; omega)]
theorem rowI_zero (m : Nat) : (madeCells (Value.int .i64 0).cells m).toList = rowI (fun _ => 0) m := by
 apply List.ext_getElem?
 intro j
 by_cases hj : j < m
 ·rw [rowI_at _ _ _ hj]; simp [madeCells, hj, Value.cells, Nat.mod_one]
 ·rw [List.getElem?_eq_none (show (rowI (fun _ => 0) m).length <= j by rw [rowI_length]; omega)]
  simp [madeCells, hj]
theorem rowI_neg (k N : Nat) : rowI (fun j => if j = k then -1 else if j < k then -1 else 0) N = rowI (fun j => if j < k + 1 then -1 else 0) N := by
 apply rowI_congr
 intro j _
 by_cases e : j = k
 ·rw [if_pos e, if_pos (by omega)]
 ·rw [if_neg e]
  by_cases e2 : j < k
  ·rw [if_pos e2, if_pos (by omega)]
  ·rw [if_neg e2, if_neg (by omega)]
def IB (B : Nat) (w : World) (a : Option Addr) (f : Nat -> Int) (n : Nat) : Prop := ∀ k, k < n -> ∃ g, a = some ⟨g, 0, none⟩ /\ g < B /\ w.cell? ⟨g, k, none⟩ = some (.int .i64 (f k))
theorem IB.below {B : Nat} {w w' : World} {a : Option Addr} {f : Nat -> Int} {n : Nat} (h : IB B w a f n) (hb : Below w.heap.size w w') : IB B w' a f n := fun k hk => by
 obtain ⟨g, e, hg, d⟩ := h k hk
 exact ⟨g, e, hg, (Fr.ofBelow (lo := 0) (hi := 0) hb).cell d (.inr (Nat.zero_le _))⟩
theorem IB.belowAt {B C : Nat} {w w' : World} {a : Option Addr} {f : Nat -> Int} {n : Nat} (h : IB B w a f n) (hB : B <= C) (hb : Below C w w') : IB B w' a f n := fun k hk => by
 obtain ⟨g, e, hg, d⟩ := h k hk
 have hl : g < C := by omega
 exact ⟨g, e, hg, (hb.cell (p := ⟨g, k, none⟩) hl).trans d⟩
theorem IB.mono {B B' : Nat} {w : World} {a : Option Addr} {f : Nat -> Int} {n : Nat} (h : IB B w a f n) (hb : B <= B') : IB B' w a f n := fun k hk => by
 obtain ⟨g, e, hg, d⟩ := h k hk
 exact ⟨g, e, by omega, d⟩
theorem IB.of {w : World} {base g c n : Nat} {f : Nat -> Int} (h : w.ownsRow base 2 1 (.slice (some ⟨g, 0, none⟩) n c) n (rowI f n)) (hg : g < w.heap.size) : IB w.heap.size w (some ⟨g, 0, none⟩) f n := fun k hk =>
 ⟨g, rfl, hg, by rw [h.cellAt k (by omega), rowI_at _ _ _ hk]⟩
def PtPost (w : World) (f : Nat -> Int) (n : Nat) (e : Ending) (w' : World) : Prop := ∃ a c, e = .returned (.slice a n c) /\ IB w'.heap.size w' a f n /\ Below w.heap.size w w'
theorem part_take {M : List (Nat × Nat)} (hM : M.Pairwise fun p q => p.1 < q.1 /\ p.2 < q.2) {k : Nat} (hk : k < M.length) (j : Nat) : part (M.take (k + 1)) j = if j = (M.getD k (0, 0)).1 then ((M.getD k (0, 0)).2 : Int) else part (M.take k) j := by
 have e : M.take (k + 1) = M.take k ++ [M.getD k (0, 0)] := by rw [List.take_succ_eq_append_getElem hk]; simp [List.getD, hk]
 rw [e, part_snoc]
 intro q hq
 obtain ⟨i, hi, rfl⟩ := List.getElem_of_mem hq
 have hi' : i < k := by rw [List.length_take] at hi; omega
 have := List.pairwise_iff_getElem.1 hM i k (by omega) hk hi'
 simp only [List.getD, List.getElem?_eq_getElem hk, Option.getD_some, List.getElem_take]
 omega
set_option maxRecDepth 20000 in
set_option maxHeartbeats 4000000 in
theorem l4Partner (a1 a2 : Option Addr) (c1 c2 : Nat) (xs ys : List ByteArray) (w : World) (h1 : SS w a1 xs) (h2 : SS w a2 ys) (n1 : xs.length <= 100) (n2 : ys.length <= 100) :
  Calls Tryz.prog 120 #[.slice a1 xs.length c1, .slice a2 ys.length c2] w fun e w' => PtPost w (part (mat xs ys 0 0)) xs.length e w' := by
 obtain ⟨i0, hi, hz0, hz1, hz2⟩ := info_parts infoI64
 have hM := fun W p q => l2Match a1 a2 c1 c2 xs ys W p q n1 n2
 have hri := mat_rises xs ys _ 0 0 (Nat.le_refl _)
 have hin := mat_in xs ys _ 0 0 (Nat.le_refl _)
 have hml := mat_length xs ys _ 0 0 (Nat.le_refl _)
 have hcl := (comAt_le xs ys 0 0).1
 have hMl : (mat xs ys 0 0).length <= 100 := by omega
 generalize mat xs ys 0 0 = M at hM hri hin hMl ⊢
 clear hml hcl
 obtain ⟨N, hN⟩ : ∃ N, xs.length = N := ⟨_, rfl⟩
 have s1 := h1.toB
 have s2 := h2.toB
 rw [hN] at hM hin n1 ⊢
 go_enter Tryz.func120, Tryz.ntmps120
 go_wp2_with (first | (at_make; refine wpList_make_full _ rfl (.tmp 11) (.tmp 11) 164 rfl w.heap.size 2 i0 (.int .i64 0) 1 Tryz.underlying164 hi hz0 hz1 .i64 .i64 _ _ N rfl rfl (by omega) (by omega) (by rw [hz2]; omega) (by unfold maxLen; omega) (Nat.le_refl _) ?_; intro w1 hown1 hg1))
 have hown : w1.ownsRow w.heap.size 2 1 (.slice (some ⟨w.heap.size, 0, none⟩) N N) N (rowI (fun j => if j < 0 then -1 else 0) N) := by
  have e : rowI (fun j => if j < 0 then -1 else 0) N = rowI (fun _ => 0) N := rowI_congr (fun j _ => if_neg (by omega))
  rw [e, <- rowI_zero]
  have h' := hown1
  rw [Nat.mul_one] at h'
  exact h'
 have hbel : Below w.heap.size w w1 := (Below.refl _ _).grown hg1 (Nat.le_refl _) (by intro k h; cases h)
 clear hown1 hg1
 go_loopw [6] (fun i wr => ∃ k : Nat, k <= N /\ i = .int .i64 k /\ wr.ownsRow w.heap.size 2 1 (.slice (some ⟨w.heap.size, 0, none⟩) N N) N (rowI (fun j => if j < k then -1 else 0) N) /\ Below w.heap.size w wr) (fun i _ => N - (intOf i).toNat)
 case atStart => exact ⟨0, Nat.zero_le _, rfl, hown, hbel⟩
 case round =>
  clear hown hbel
  obtain ⟨k, hk, rfl, howr, hbr⟩ := hrel
  have hsz := hbr.size
  by_cases hlt : k < N
  ·have q : (k : Int) < (N : Int) := by omega
   have e0 : wr.cell? ⟨w.heap.size, k, none⟩ = some (.int .i64 (if k < k then -1 else 0)) := by rw [howr.cellAt k (by omega), rowI_at _ _ _ hlt]
   have f0 := howr.frozenAt k
   have st := (howr.stored k (.int .i64 (-1))).1
   rw [rowI_set, rowI_neg] at st
   have HS : Hid (World.ownsRow _ _ _ _ _ _ _) := st
   have HB : Hid (Below w.heap.size w (wr.setCell ⟨w.heap.size, k, none⟩ (.int .i64 (-1)))) := hbr.setCell (p := ⟨w.heap.size, k, none⟩) (Nat.le_refl _) _
   clear st howr hbr
   go_wp2
   go_roundw
   case rel => exact ⟨k + 1, by omega, by go_num, HS.out, HB.out⟩
   case measure => first | (simp [intOf]; omega) | simp [intOf]
  ·have q : ¬ (k : Int) < (N : Int) := by omega
   obtain rfl : k = N := by omega
   have e : rowI (fun j => if j < k then -1 else 0) k = rowI (part (M.take 0)) k := rowI_congr (fun j hj => by rw [if_pos hj, List.take_zero, part_nil])
   rw [e] at howr
   have S1 := (s1.below (hbr.mono (Nat.le_refl _)) )
   have S2 := (s2.below (hbr.mono (Nat.le_refl _)) )
   obtain ⟨V, hV⟩ : ∃ V, wr = V := ⟨_, rfl⟩
   subst hV
   clear e
   go_wp2_with fail
   refine (hM _ (S1.toSS hsz) (S2.toSS hsz)).mono ?_; rintro e w2 ⟨v1, v2, rfl, hP, b2⟩
   have z2 := b2.size
   have hl1 : w.heap.size < wr.heap.size := by
    rcases howr.2 with ⟨h', _⟩ | ⟨g, cap, cur, h', _, hh, _⟩
    ·cases h'
    ·simp only [Value.slice.injEq, Option.some.injEq, Addr.mk.injEq] at h'
     have := (Array.getElem?_eq_some_iff.1 hh).1
     omega
   have own2 := howr.kept (grownOfBelow b2 none) (.inr (by simp [Value.ownBlock]))
   have B2 := below_step hbr hsz b2
   have hr1 : ∀ j, v1.ownBlock = some j -> w.heap.size < j := fun j hj => Nat.lt_of_lt_of_le hl1 (hP.o1.lt j hj).1
   have hr2 : ∀ j, v2.ownBlock = some j -> w.heap.size < j := fun j hj => Nat.lt_of_lt_of_le hl1 (hP.o2.lt j hj).1
   obtain ⟨g1, d1, g2, d2, rfl, rfl, R1⟩ := hP.toRPk
   clear hM S1 S2 s1 s2 h1 h2 hP b2 howr hbr
   go_wp2
   go_loopw [9] (fun i wr2 => ∃ n : Nat, n <= M.length /\ i = .int .i64 n /\ wr2.ownsRow w.heap.size 2 1 (.slice (some ⟨w.heap.size, 0, none⟩) k k) k (rowI (part (M.take n)) k) /\ RPk w2.heap.size wr2 g1 g2 M /\ Below w.heap.size w wr2 /\ w2.heap.size <= wr2.heap.size) (fun i _ => M.length - (intOf i).toNat)
   case atStart => exact ⟨0, Nat.zero_le _, rfl, own2, R1, B2, Nat.le_refl _⟩
   case round =>
    clear own2 R1 B2
    obtain ⟨n, hn, rfl, hown, hR, hbel, hz⟩ := hrel
    by_cases hln : n < M.length
    ·have qn : (n : Int) < (M.length : Int) := by omega
     obtain ⟨k1, k2, rfl, rfl, l1, l2, m1, m2⟩ := hR n hln
     have hpt := fun j => part_take hri hln j
     have hx := hin _ (by have e := List.getElem_mem hln; exact (show M.getD n (0, 0) ∈ M by rw [List.getD, List.getElem?_eq_getElem hln]; exact e))
     have hk1 := hr1 k1 rfl
     have hk2 := hr2 k2 rfl
     obtain ⟨C, hC⟩ : ∃ C, M.getD n (0, 0) = C := ⟨_, rfl⟩
     obtain ⟨P, Q⟩ := C
     rw [hC] at m1 m2 hx
     simp only [hC] at hpt
     simp only [] at m1 m2 hx
     obtain ⟨_, _, hPk, _, _⟩ := hx
     have qP : (P : Int) < (k : Int) := by omega
     have e0 : wr.cell? ⟨w.heap.size, P, none⟩ = some (.int .i64 (part (M.take n) P)) := by rw [hown.cellAt P (by omega), rowI_at _ _ _ hPk]
     have f0 := hown.frozenAt P
     have st := (hown.stored P (.int .i64 (Q : Int))).1
     rw [rowI_set, rowI_congr (g := part (M.take (n + 1))) (fun j _ => (hpt j).symm)] at st
     have HS : Hid (World.ownsRow _ _ _ _ _ _ _) := st
     have HB : Hid (Below w.heap.size w (wr.setCell ⟨w.heap.size, P, none⟩ (.int .i64 (Q : Int)))) := hbel.setCell (p := ⟨w.heap.size, P, none⟩) (Nat.le_refl _) _
     have HRR : Hid (RPk w2.heap.size (wr.setCell ⟨w.heap.size, P, none⟩ (.int .i64 (Q : Int))) (some ⟨k1, 0, none⟩) (some ⟨k2, 0, none⟩) M) := fun i hi => by
      obtain ⟨j1, j2, e1, e2, q1, q2, u1, u2⟩ := hR i hi
      have G := grownSet wr w.heap.size P (.int .i64 (Q : Int))
      cases e1
      cases e2
      exact ⟨k1, k2, rfl, rfl, l1, l2, G.cell u1 (fun e => by have := Option.some.inj e; simp only [] at this; omega), G.cell u2 (fun e => by have := Option.some.inj e; simp only [] at this; omega)⟩
     have HZ : Hid (w2.heap.size <= (wr.setCell ⟨w.heap.size, P, none⟩ (.int .i64 (Q : Int))).heap.size) := by show _ <= _; simpa using hz
     clear st hpt hown hR hbel hC
     go_wp2
     go_region
     go_wp2
     go_roundw
     case rel => exact ⟨n + 1, by omega, by go_num, by first | exact HS.out | exact HS.out.drew, by first | exact HRR.out | exact fun i hi => HRR.out i hi, by first | exact HB.out | exact below_drew HB.out, HZ.out⟩
     case measure => first | (simp [intOf]; omega) | simp [intOf]
    ·have qn : ¬ (n : Int) < (M.length : Int) := by omega
     rw [List.take_of_length_le (by omega)] at hown
     have HF : Hid (PtPost w (part M) k (.returned (.slice (some ⟨w.heap.size, 0, none⟩) k k)) wr) := ⟨_, _, rfl, IB.of hown (by omega), hbel⟩
     clear hown hR hbel
     go_wp2
     go_ret
     exact HF.out
end Go.Proofs.YtcfnkndbhpdfnaaGreatDoor
namespace Go.Proofs.YtcfnkndbhpdfnaaGreatDoor
open Go.ChangeShapes Go.WideShapes Go.ChangeAt Go.RowKit
structure N3 (a1 a2 a3 : Option Addr) (c1 c2 c3 : Nat) : Prop where
 z1 : a1 = none -> c1 = 0
 z2 : a2 = none -> c2 = 0
 z3 : a3 = none -> c3 = 0
theorem segA_none {a : Option Addr} {c f : Nat} (h : a = none -> c = 0) (e : segA a c f = none) : c - f = 0 := by
 unfold segA at e
 split at e
 ·omega
 ·cases a with
  | none => have := h rfl; omega
  | some x => cases e
theorem putSeg (base : Nat) (v : Value) (L : List Ck) (sl : Nat -> Value) (a1 a2 a3 : Option Addr) (c1 c2 c3 : Nat) (x1 x2 x3 : List ByteArray) (f0 f1 f2 t0 t1 t2 : Nat) (w : World) (B : Nat) (hO : KO base w v L sl) (hb : base <= w.heap.size) (hX : X3 B w a1 a2 a3 c1 c2 c3 x1 x2 x3) (hB : B <= w.heap.size) (hZ : Z3 c1 c2 c3 x1 x2 x3) (hN : N3 a1 a2 a3 c1 c2 c3) (hL : L.length <= 1048576)
  (h1 : le3 (f0, f1, f2) (t0, t1, t2)) (h2 : le3 (t0, t1, t2) (x1.length, x2.length, x3.length)) :
  Calls Tryz.prog 121 #[v, segV a1 c1 f0 t0, segV a2 c2 f1 t1, segV a3 c3 f2 t2] w fun e w' => PutP base v (L ++ ptK x1 x2 x3 ((f0, f1, f2), (t0, t1, t2))) w e w' := by
 obtain ⟨h10, h11, h12⟩ := h1
 obtain ⟨h20, h21, h22⟩ := h2
 simp only [] at h10 h11 h12 h20 h21 h22
 have l1 : (sgK x1 f0 t0).length = t0 - f0 := sgK_len h20
 have l2 : (sgK x2 f1 t1).length = t1 - f1 := sgK_len h21
 have l3 : (sgK x3 f2 t2).length = t2 - f2 := sgK_len h22
 have q1 := segSSB hX.s1 f0 t0 c1 h10 h20 hZ.k1
 have q2 := segSSB hX.s2 f1 t1 c2 h11 h21 hZ.k2
 have q3 := segSSB hX.s3 f2 t2 c3 h12 h22 hZ.k3
 have hA := l4PutW base v L sl (segA a1 c1 f0) (segA a2 c2 f1) (segA a3 c3 f2) (c1 - f0) (c2 - f1) (c3 - f2) (sgK x1 f0 t0) (sgK x2 f1 t1) (sgK x3 f2 t2) w hO hb ⟨q1.mono hB, segA_none hN.z1⟩ ⟨q2.mono hB, segA_none hN.z2⟩ ⟨q3.mono hB, segA_none hN.z3⟩ (by have := hZ.n1; omega) (by have := hZ.n2; omega) (by have := hZ.n3; omega) hL
 rw [l1, l2, l3] at hA
 exact hA
def rest3 (A B : Nat -> Int) (E : T3) (N : Nat) (f : T3) : List (T3 × T3) := (f, ad f (runF A B (N - f.1) f)) :: segs E (ad f (runF A B (N - f.1) f)) (keptR A B (f.1 + runF A B (N - f.1) f) (N - (f.1 + runF A B (N - f.1) f)))
theorem rest_ok {A B : Nat -> Int} {E : T3} {N : Nat} (G : T3 × T3 -> Prop) (h0 : G ((0, 0, 0), (0, 0, 0))) (hok : ∀ x ∈ segs E (0, 0, 0) (keptR A B 0 N), G x) : ∀ x ∈ rest3 A B E N (0, 0, 0), G x := by
 unfold rest3
 simp only [Nat.sub_zero, Nat.zero_add]
 cases N with
 | zero =>
  intro x hx
  rcases List.mem_cons.1 hx with rfl | hx
  ·exact h0
  ·exact hok x hx
 | succ n =>
  by_cases h : A 0 = 0 /\ B 0 = 0
  ·have hb : both A B 0 = true := by unfold both; rw [h.1, h.2]; rfl
   have e := segs_run (E := E) (f := (0, 0, 0)) (n := n) hb
   rw [h.1, h.2] at e
   rw [e] at hok
   simp only [Int.toNat_zero, Nat.zero_add] at hok
   exact fun x hx => hok x (List.mem_cons_of_mem _ hx)
  ·have hz : runF A B (n + 1) (0, 0, 0) = 0 := runF_no n h
   rw [hz, ad_zero, Nat.sub_zero]
   intro x hx
   rcases List.mem_cons.1 hx with rfl | hx
   ·exact h0
   ·exact hok x hx
theorem rest_start {A B : Nat -> Int} {E : T3} {N : Nat} {α : Type} (pt : T3 × T3 -> List α) (h0 : ∀ p, pt (p, p) = []) : (segs E (0, 0, 0) (keptR A B 0 N)).flatMap pt = (rest3 A B E N (0, 0, 0)).flatMap pt := by
 rw [segs_start A B E N pt h0]
 unfold rest3
 simp only [Nat.sub_zero, Nat.zero_add]
theorem ptK_self (x1 x2 x3 : List ByteArray) (p : T3) : ptK x1 x2 x3 (p, p) = [] := by
 unfold ptK sgK
 simp only [Nat.sub_self, List.take_zero]
 rfl
theorem runF_ad {A B : Nat -> Int} {N : Nat} {f : T3} {n : Nat} (hn : f.1 + n < N) (h : A (f.1 + n) = ((f.2.1 + n : Nat) : Int) /\ B (f.1 + n) = ((f.2.2 + n : Nat) : Int)) : runF A B (N - f.1 - n) (ad f n) = runF A B (N - f.1 - (n + 1)) (ad f (n + 1)) + 1 := by
 obtain ⟨m, hm⟩ : ∃ m, N - f.1 - n = m + 1 := ⟨N - f.1 - n - 1, by omega⟩
 rw [hm, runF_yes m h, show N - f.1 - (n + 1) = m by omega]
 rfl
theorem runF_ad_no {A B : Nat -> Int} {N : Nat} {f : T3} {n : Nat} (h : f.1 + n < N -> ¬ (A (f.1 + n) = ((f.2.1 + n : Nat) : Int) /\ B (f.1 + n) = ((f.2.2 + n : Nat) : Int))) : runF A B (N - f.1 - n) (ad f n) = 0 := by
 cases e : N - f.1 - n with
 | zero => rfl
 | succ m => exact runF_no m (h (by omega))
end Go.Proofs.YtcfnkndbhpdfnaaGreatDoor
namespace Go.Proofs.YtcfnkndbhpdfnaaGreatDoor
open Go.ChangeShapes Go.WideShapes Go.ChangeAt Go.RowKit
def KPs (T : List Ck) (w : World) (e : Ending) (w' : World) : Prop := ∃ v sl, e = .returned v /\ KO w.heap.size w' v T sl /\ Below w.heap.size w w'
theorem KO.emptyK {base : Nat} {w : World} {v : Value} (sl : Nat -> Value) (h : w.ownsRow base 162 4 v 0 []) : KO base w v [] sl :=
 ⟨h, fun _ h => absurd h (Nat.not_lt_zero _), fun _ _ _ h => absurd h (Nat.not_lt_zero _), fun _ h => absurd h (Nat.not_lt_zero _)⟩
theorem beqI {a b : Int} (h : a = b) : (a == b) = true := by simp [h]
theorem beqJ {a b : Int} (h : ¬ a = b) : (a == b) = false := by simp [h]
theorem lenApp {CL P R T : List Ck} (h : CL ++ (P ++ R) = T) (hT : T.length <= 1048576) : CL.length <= 1048576 /\ (CL ++ P).length <= 1048576 := by
 rw [<- h] at hT
 simp only [List.length_append] at hT ⊢
 omega
set_option maxRecDepth 20000 in
set_option maxHeartbeats 8000000 in
theorem l4Chunks (a1 a2 a3 : Option Addr) (c1 c2 c3 : Nat) (x1 x2 x3 : List ByteArray) (w : World) (hX : X3 w.heap.size w a1 a2 a3 c1 c2 c3 x1 x2 x3) (hZ : Z3 c1 c2 c3 x1 x2 x3) (hN : N3 a1 a2 a3 c1 c2 c3) (n1 : x1.length <= 100) (n2 : x2.length <= 100) (n3 : x3.length <= 100)
  (hok : ∀ x ∈ segs (x1.length, x2.length, x3.length) (0, 0, 0) (keptR (part (mat x1 x2 0 0)) (part (mat x1 x3 0 0)) 0 x1.length), le3 x.1 x.2 /\ le3 x.2 (x1.length, x2.length, x3.length)) (hT : ((segs (x1.length, x2.length, x3.length) (0, 0, 0) (keptR (part (mat x1 x2 0 0)) (part (mat x1 x3 0 0)) 0 x1.length)).flatMap (ptK x1 x2 x3)).length <= 1048576) :
  Calls Tryz.prog 104 #[.slice a1 x1.length c1, .slice a2 x2.length c2, .slice a3 x3.length c3] w fun e w' => KPs ((segs (x1.length, x2.length, x3.length) (0, 0, 0) (keptR (part (mat x1 x2 0 0)) (part (mat x1 x3 0 0)) 0 x1.length)).flatMap (ptK x1 x2 x3)) w e w' := by
 have hPa := fun W p q => l4Partner a1 a2 c1 c2 x1 x2 W p q n1 n2
 have hPb := fun W p q => l4Partner a1 a3 c1 c3 x1 x3 W p q n1 n3
 generalize part (mat x1 x2 0 0) = A at hPa hok hT ⊢
 generalize part (mat x1 x3 0 0) = B at hPb hok hT ⊢
 have HO0 : Hid (∀ x ∈ rest3 A B (x1.length, x2.length, x3.length) x1.length (0, 0, 0), le3 x.1 x.2 /\ le3 x.2 (x1.length, x2.length, x3.length)) := rest_ok _ ⟨⟨Nat.le_refl _, Nat.le_refl _, Nat.le_refl _⟩, ⟨Nat.zero_le _, Nat.zero_le _, Nat.zero_le _⟩⟩ hok
 have hst := rest_start (A := A) (B := B) (E := (x1.length, x2.length, x3.length)) (N := x1.length) (ptK x1 x2 x3) (ptK_self x1 x2 x3)
 obtain ⟨T, hTe⟩ : ∃ T, (segs (x1.length, x2.length, x3.length) (0, 0, 0) (keptR A B 0 x1.length)).flatMap (ptK x1 x2 x3) = T := ⟨_, rfl⟩
 rw [hTe] at hT hst ⊢
 have HT0 : Hid (([] : List Ck) ++ (rest3 A B (x1.length, x2.length, x3.length) x1.length (0, 0, 0)).flatMap (ptK x1 x2 x3) = T) := hst.symm
 clear hst hTe hok
 have hS1 := hX.s1
 go_enter Tryz.func104, Tryz.ntmps104
 go_wp2_with fail
 refine (hPa _ (hX.s1.toSS (Nat.le_refl _)) (hX.s2.toSS (Nat.le_refl _))).mono ?_; rintro e w1 ⟨pa, pc, rfl, IA, b1⟩
 have z1 := b1.size
 have X1 := hX.belowAt b1
 clear hPa hX hS1
 go_wp2_with fail
 refine (hPb _ (X1.s1.toSS z1) (X1.s3.toSS z1)).mono ?_; rintro e w2 ⟨pb, pd, rfl, IBb, b2⟩
 have z2 := b2.size
 have B2 := b1.trans (b2.mono z1)
 have X2 := X1.belowAt (b2.mono z1)
 replace IA := (IA.below b2).mono z2
 clear hPb X1 b1 b2
 go_wp2
 go_loopw [9, 10, 11, 12, 14, 15] (fun s9 s10 s11 s12 _ _ wr => ∃ (i j k : Nat) (CL : List Ck) (sl : Nat -> Value), s10 = .int .i64 i /\ s11 = .int .i64 j /\ s12 = .int .i64 k /\ i <= x1.length /\ j <= x2.length /\ k <= x3.length /\ KO w2.heap.size wr s9 CL sl /\ Below w2.heap.size w2 wr /\ Hid (CL ++ (rest3 A B (x1.length, x2.length, x3.length) x1.length (i, j, k)).flatMap (ptK x1 x2 x3) = T) /\ Hid (∀ x ∈ rest3 A B (x1.length, x2.length, x3.length) x1.length (i, j, k), le3 x.1 x.2 /\ le3 x.2 (x1.length, x2.length, x3.length)))
  (fun _ s10 s11 s12 _ _ _ => 2 * (x1.length - (intOf s10).toNat) + (if A (intOf s10).toNat = intOf s11 /\ B (intOf s10).toNat = intOf s12 then 0 else 1))
 case atStart => exact ⟨0, 0, 0, [], fun _ => .slice none 0 0, rfl, rfl, rfl, Nat.zero_le _, Nat.zero_le _, Nat.zero_le _, KO.emptyK _ (World.ownsRow_lit w2 #[] 0 (Nat.le_refl _) (Nat.zero_le _) rfl), allocBelow _ _, HT0, HO0⟩
 case round =>
  clear HT0 HO0
  obtain ⟨i, j, k, CL, sl, rfl, rfl, rfl, hi, hj, hk, hO, hbel, hE, hK⟩ := hrel
  obtain ⟨V, hV⟩ : ∃ V, V = wr := ⟨_, rfl⟩
  subst hV
  have hsz := hbel.size
  obtain ⟨ra, rc, er⟩ := shapeK hO.row
  subst er
  go_wp2
  go_loopw [14] (fun s wr2 => ∃ n : Nat, s = .int .i64 n /\ wr2 = V /\ i + n <= x1.length /\ n <= 100 /\ Hid (runF A B (x1.length - i) (i, j, k) = n + runF A B (x1.length - i - n) (ad (i, j, k) n))) (fun s _ => x1.length - i - (intOf s).toNat)
  case atStart => exact ⟨0, rfl, rfl, by omega, by omega, by show _ = _; simp only [Nat.sub_zero, ad_zero, Nat.zero_add]⟩
  case round =>
   obtain ⟨n, rfl, rfl, hin, hn, hrn⟩ := hrel
   have hyes := fun (c : i + n < x1.length) h => runF_ad (A := A) (B := B) (N := x1.length) (f := (i, j, k)) (n := n) c h
   have hno := fun h => runF_ad_no (A := A) (B := B) (N := x1.length) (f := (i, j, k)) (n := n) h
   simp only [] at hyes hno
   obtain ⟨D, hD⟩ : ∃ D, (decide (i + n < x1.length /\ A (i + n) = ((j + n : Nat) : Int) /\ B (i + n) = ((k + n : Nat) : Int))) = D := ⟨_, rfl⟩
   have hm : (i : Int) + (n : Int) = ((i + n : Nat) : Int) := by omega
   go_upto_region 9 with fail
   go_cut [53] from 25 to 54 (fun s wx => s = .bool D /\ wr = wx)
   case first =>
    by_cases c : i + n < x1.length
    ·obtain ⟨ga, rfl, la, ma⟩ := IA.belowAt (Nat.le_refl _) hbel (i + n) c
     obtain ⟨gb, rfl, lb, mb⟩ := IBb.belowAt (Nat.le_refl _) hbel (i + n) c
     obtain ⟨m, hm2⟩ : ∃ m, i + n = m := ⟨_, rfl⟩
     rw [hm2] at hm ma mb hD c
     have q : (m : Int) < (x1.length : Int) := by omega
     by_cases ca : A m = ((j + n : Nat) : Int)
     ·have qa : (A m == (j : Int) + (n : Int)) = true := beqI (by omega)
      by_cases cb : B m = ((k + n : Nat) : Int)
      ·have qb : (B m == (k : Int) + (n : Int)) = true := beqI (by omega)
       have hDD : D = true := by rw [<- hD]; exact decide_eq_true ⟨c, ca, cb⟩
       clear hyes hno hD hE hK hO
       go_wp2
       go_meet
       exact ⟨by rw [hDD], rfl⟩
      ·have qb : (B m == (k : Int) + (n : Int)) = false := beqJ (by omega)
       have hDD : D = false := by rw [<- hD]; exact decide_eq_false (fun h => cb h.2.2)
       clear hyes hno hD hE hK hO
       go_wp2
       go_meet
       exact ⟨by rw [hDD], rfl⟩
     ·have qa : (A m == (j : Int) + (n : Int)) = false := beqJ (by omega)
      have hDD : D = false := by rw [<- hD]; exact decide_eq_false (fun h => ca h.2.1)
      clear hyes hno hD hE hK hO
      go_wp2
      go_meet
      exact ⟨by rw [hDD], rfl⟩
    ·obtain ⟨m, hm2⟩ : ∃ m, i + n = m := ⟨_, rfl⟩
     rw [hm2] at hm
     have q : ¬ ((m : Int) < (x1.length : Int)) := by omega
     have hDD : D = false := by rw [<- hD]; exact decide_eq_false (fun h => c h.1)
     clear hyes hno hD hE hK hO
     go_wp2
     go_meet
     exact ⟨by rw [hDD], rfl⟩
   case rest =>
   obtain ⟨rfl, rfl⟩ := hcut
   cases D with
   | true =>
    have h3 := of_decide_eq_true hD
    have HN : Hid (runF A B (x1.length - i) (i, j, k) = (n + 1) + runF A B (x1.length - i - (n + 1)) (ad (i, j, k) (n + 1))) := by
     show _ = _
     rw [hrn.out, hyes h3.1 ⟨h3.2.1, h3.2.2⟩]; omega
    have h31 := h3.1
    clear hyes hno hD hrn h3
    go_wp2
    go_roundw
    case rel => exact ⟨n + 1, by go_num, by trivial, by omega, by omega, HN⟩
    case measure => first | (simp [intOf]; omega) | simp [intOf]
   | false =>
    have h3 := of_decide_eq_false hD
    have HR : Hid (runF A B (x1.length - i) (i, j, k) = n) := by
     show _ = _
     rw [hrn.out, hno (fun c h => h3 ⟨c, h.1, h.2⟩)]; omega
    clear hyes hno hD hrn h3
    have hunf : rest3 A B (x1.length, x2.length, x3.length) x1.length (i, j, k) = ((i, j, k), (i + n, j + n, k + n)) :: segs (x1.length, x2.length, x3.length) (i + n, j + n, k + n) (keptR A B (i + n) (x1.length - (i + n))) := by
     unfold rest3
     simp only []
     rw [HR.out]
     rfl
    have hE1 := hE.out
    have hK1 := hK.out
    rw [hunf] at hE1 hK1
    rw [List.flatMap_cons] at hE1
    have hk1 := hK1 _ (List.mem_cons_self ..)
    have hk2 := fun x hx => hK1 x (List.mem_cons_of_mem _ hx)
    have hlen := lenApp hE1 hT
    have hmj : (j : Int) + (n : Int) = ((j + n : Nat) : Int) := by omega
    have hmk : (k : Int) + (n : Int) = ((k + n : Nat) : Int) := by omega
    have hprog : 0 < n \/ (i < x1.length -> ¬ (A i = (j : Int) /\ B i = (k : Int))) := by
     by_cases h0 : n = 0
     ·refine .inr (fun hlt h => ?_)
      have h1 := HR.out
      obtain ⟨m', hm'⟩ : ∃ m', x1.length - i = m' + 1 := ⟨x1.length - i - 1, by omega⟩
      rw [hm', runF_yes m' h] at h1
      omega
     ·exact .inl (by omega)
    obtain ⟨m, hm2⟩ : ∃ m, i + n = m := ⟨_, rfl⟩
    obtain ⟨J, hJ2⟩ : ∃ J, j + n = J := ⟨_, rfl⟩
    obtain ⟨K, hK2⟩ : ∃ K, k + n = K := ⟨_, rfl⟩
    rw [hm2, hJ2, hK2] at hE1 hk1 hk2 hlen
    rw [hm2] at hm
    rw [hJ2] at hmj
    rw [hK2] at hmk
    have him : i <= m /\ (n = 0 -> m = i) := by omega
    have hjm : j <= J := by omega
    have hkm : k <= K := by omega
    obtain ⟨hle0, hleE0⟩ := hk1
    simp only [] at hle0 hleE0
    have bm : m <= x1.length := hleE0.1
    have bJ : J <= x2.length := hleE0.2.1
    have bK : K <= x3.length := hleE0.2.2
    have cm : m <= c1 := Nat.le_trans bm hZ.k1
    have cJ : J <= c2 := Nat.le_trans bJ hZ.k2
    have cK : K <= c3 := Nat.le_trans bK hZ.k3
    have wm : IntKind.i64.wrap (m : Int) = (m : Int) := by rw [IntKind.wrap_i64]; omega
    have wJ : IntKind.i64.wrap (J : Int) = (J : Int) := by rw [IntKind.wrap_i64]; omega
    have wK : IntKind.i64.wrap (K : Int) = (K : Int) := by rw [IntKind.wrap_i64]; omega
    have him1 := him.1
    obtain ⟨P, hP⟩ : ∃ P, CL ++ ptK x1 x2 x3 ((i, j, k), (m, J, K)) = P := ⟨_, rfl⟩
    have z12 : w.heap.size <= w2.heap.size := by omega
    have hLn0 := hlen.1
    have ra0 := ra
    have HE1 : Hid (P ++ (segs (x1.length, x2.length, x3.length) (m, J, K) (keptR A B m (x1.length - m))).flatMap (ptK x1 x2 x3) = T) := by show _ = _; rw [<- hP, List.append_assoc]; exact hE1
    have hPl : P.length <= 1048576 := by rw [<- hP]; exact hlen.2
    have HK2 : Hid (∀ x ∈ segs (x1.length, x2.length, x3.length) (m, J, K) (keptR A B m (x1.length - m)), le3 x.1 x.2 /\ le3 x.2 (x1.length, x2.length, x3.length)) := hk2
    obtain ⟨A00, hA00⟩ : ∃ A, (if c1 = i then a1 else Option.map (fun x => x.add i) a1) = A := ⟨_, rfl⟩
    have e00 : segV a1 c1 i m = .slice A00 (m - i) (c1 - i) := by unfold segV segA; rw [hA00]
    obtain ⟨A01, hA01⟩ : ∃ A, (if c2 = j then a2 else Option.map (fun x => x.add j) a2) = A := ⟨_, rfl⟩
    have e01 : segV a2 c2 j J = .slice A01 (J - j) (c2 - j) := by unfold segV segA; rw [hA01]
    obtain ⟨A02, hA02⟩ : ∃ A, (if c3 = k then a3 else Option.map (fun x => x.add k) a3) = A := ⟨_, rfl⟩
    have e02 : segV a3 c3 k K = .slice A02 (K - k) (c3 - k) := by unfold segV segA; rw [hA02]
    have hPut0 := fun W (b : Below wr.heap.size wr W) => putSeg w2.heap.size (.slice ra CL.length rc) CL sl a1 a2 a3 c1 c2 c3 x1 x2 x3 i j k m J K W w.heap.size (hO.below b) (by have := b.size; omega) ((X2.belowAt (hbel.mono z12)).belowAt (b.mono (by omega))) (by have := b.size; omega) hZ hN hLn0 hle0 hleE0
    rw [e00, e01, e02] at hPut0
    clear e00 e01 e02
    have hVb0 : ∀ b, (Value.slice ra CL.length rc).ownBlock = some b -> w2.heap.size <= b := fun b hb => (hO.row.lt b hb).1
    rw [hP] at hPut0
    clear hE hK hE1 hK1 hk2 hunf hlen HR hm2 hJ2 hK2 hP ra0
    go_upto_region 11 with fail
    go_cut [9] from 56 to 76 (fun s wx => ∃ ra' rc' sl' W', W' = wx /\ s = .slice ra' P.length rc' /\ KO w2.heap.size W' (.slice ra' P.length rc') P sl' /\ Below w2.heap.size w2 W')
    case first =>
     have BD : Below wr.heap.size wr wr.drew := (Below.refl _ _).drew
     have belD := below_drew hbel
     go_region_with ((go_at_call 121; refine (hPut0 _ (by first | with_reducible exact BD | exact BD)).mono ?_; rintro e w3 ⟨v', sl', rfl, O3, G3⟩))
     all_goals
      obtain ⟨ra', rc', er'⟩ := shapeK O3.row
      subst er'
      have B3 : Below w2.heap.size w2 w3 := belD.grown G3 (by show w2.heap.size <= wr.heap.size; omega) (fun j hj => hVb0 j hj)
      go_wp2_with fail
      go_meet
      first | exact ⟨_, _, _, _, rfl, rfl, O3, B3⟩ | exact ⟨_, _, _, _, rfl, rfl, O3.below (below_drew (Below.refl _ _)), below_drew B3⟩
    case rest =>
    obtain ⟨ra1, rc1, sl1, V1, rfl, rfl, hO1, hbel1⟩ := hcut
    have hs1 := hbel1.size
    clear hPut0 hA00 hA01 hA02 hVb0 hO hbel wm wJ wK
    go_wp2
    go_loopw [15] (fun s wr2 => ∃ t : Nat, s = .int .i64 t /\ wr2 = V1 /\ m <= t /\ t <= x1.length /\ Hid (keptR A B m (x1.length - m) = keptR A B t (x1.length - t))) (fun s _ => x1.length - (intOf s).toNat)
    case atStart => exact ⟨m, rfl, rfl, Nat.le_refl _, bm, rfl⟩
    case round =>
     obtain ⟨t, rfl, rfl, hmt, ht, hkt⟩ := hrel
     obtain ⟨D2, hD2⟩ : ∃ D, (decide (t < x1.length /\ (A t < 0 \/ B t < 0))) = D := ⟨_, rfl⟩
     go_upto_region 16 with fail
     go_cut [102] from 86 to 103 (fun s wx => s = .bool D2 /\ wr = wx)
     case first =>
      by_cases c : t < x1.length
      ·obtain ⟨ga, rfl, la, ma⟩ := IA.belowAt (Nat.le_refl _) hbel1 t c
       obtain ⟨gb, rfl, lb, mb⟩ := IBb.belowAt (Nat.le_refl _) hbel1 t c
       have q : (t : Int) < (x1.length : Int) := by omega
       by_cases ca : A t < 0
       ·have hDD : D2 = true := by rw [<- hD2]; exact decide_eq_true ⟨c, .inl ca⟩
        clear hD2 HE1 HK2 hO1 hkt
        go_wp2
        go_meet
        exact ⟨by rw [hDD], rfl⟩
       ·by_cases cb : B t < 0
        ·have hDD : D2 = true := by rw [<- hD2]; exact decide_eq_true ⟨c, .inr cb⟩
         clear hD2 HE1 HK2 hO1 hkt
         go_wp2
         go_meet
         exact ⟨by rw [hDD], rfl⟩
        ·have hDD : D2 = false := by rw [<- hD2]; exact decide_eq_false (fun h => h.2.elim ca cb)
         clear hD2 HE1 HK2 hO1 hkt
         go_wp2
         go_meet
         exact ⟨by rw [hDD], rfl⟩
      ·have q : ¬ ((t : Int) < (x1.length : Int)) := by omega
       have hDD : D2 = false := by rw [<- hD2]; exact decide_eq_false (fun h => c h.1)
       clear hD2 HE1 HK2 hO1 hkt
       go_wp2
       go_meet
       exact ⟨by rw [hDD], rfl⟩
     case rest =>
     obtain ⟨rfl, rfl⟩ := hcut
     cases D2 with
     | true =>
      have h3 := of_decide_eq_true hD2
      have hb3 : both A B t = false := decide_eq_false (fun h => by rcases h3.2 with h' | h' <;> omega)
      have HN : Hid (keptR A B m (x1.length - m) = keptR A B (t + 1) (x1.length - (t + 1))) := hkt.out.trans (kept_skip h3.1 hb3)
      have h31 := h3.1
      clear hD2 hkt h3 hb3
      go_wp2
      go_roundw
      case rel => exact ⟨t + 1, by go_num, by trivial, by omega, by omega, HN⟩
      case measure => first | (simp [intOf]; omega) | simp [intOf]
     | false =>
      have h3 := of_decide_eq_false hD2
      have hE2 := HE1.out
      have hK2 := HK2.out
      rw [hkt.out] at hE2 hK2
      clear hD2 HE1 HK2 hkt
      by_cases c : t < x1.length
      ·have hAt : 0 <= A t := Int.not_lt.1 (fun h => h3 ⟨c, .inl h⟩)
       have hBt : 0 <= B t := Int.not_lt.1 (fun h => h3 ⟨c, .inr h⟩)
       have hb3 : both A B t = true := decide_eq_true ⟨hAt, hBt⟩
       rw [kept_at c hb3] at hE2 hK2
       obtain ⟨J2, hJ2⟩ : ∃ J2 : Nat, A t = (J2 : Int) := ⟨(A t).toNat, by omega⟩
       obtain ⟨K2, hK2'⟩ : ∃ K2 : Nat, B t = (K2 : Int) := ⟨(B t).toNat, by omega⟩
       have eJ : (A t).toNat = J2 := by omega
       have eK : (B t).toNat = K2 := by omega
       rw [eJ, eK] at hE2 hK2
       have hre : rest3 A B (x1.length, x2.length, x3.length) x1.length (t, J2, K2) = ((t, J2, K2), ad (t, J2, K2) (runF A B (x1.length - t) (t, J2, K2))) :: segs (x1.length, x2.length, x3.length) (ad (t, J2, K2) (runF A B (x1.length - t) (t, J2, K2))) (keptR A B (t + runF A B (x1.length - t) (t, J2, K2)) (x1.length - (t + runF A B (x1.length - t) (t, J2, K2)))) := rfl
       rw [<- hre, List.flatMap_cons] at hE2
       rw [<- hre] at hK2
       have hk1 := hK2 _ (List.mem_cons_self ..)
       have HKN : Hid (∀ x ∈ rest3 A B (x1.length, x2.length, x3.length) x1.length (t, J2, K2), le3 x.1 x.2 /\ le3 x.2 (x1.length, x2.length, x3.length)) := fun x hx => hK2 x (List.mem_cons_of_mem _ hx)
       obtain ⟨hle1, hleE1⟩ := hk1
       simp only [] at hle1 hleE1
       have hlen1 := lenApp hE2 hT
       have hLn1 := hlen1.1
       have b3t : t <= c1 := Nat.le_trans ht hZ.k1
       have b3J : J2 <= x2.length := hleE1.2.1
       have b3K : K2 <= x3.length := hleE1.2.2
       have b4J : J2 <= c2 := Nat.le_trans b3J hZ.k2
       have b4K : K2 <= c3 := Nat.le_trans b3K hZ.k3
       have b5J : J <= J2 := hle1.2.1
       have b5K : K <= K2 := hle1.2.2
       obtain ⟨ga, rfl, la, ma⟩ := IA.belowAt (Nat.le_refl _) hbel1 t c
       obtain ⟨gb, rfl, lb, mb⟩ := IBb.belowAt (Nat.le_refl _) hbel1 t c
       rw [hJ2] at ma
       rw [hK2'] at mb
       have hcar2 : ∀ W, Below w2.heap.size w2 W -> W.cell? ⟨ga, t, none⟩ = some (.int .i64 (J2 : Int)) /\ W.cell? ⟨gb, t, none⟩ = some (.int .i64 (K2 : Int)) := fun W b => by
        obtain ⟨g1, q1, _, r1⟩ := IA.belowAt (Nat.le_refl _) b t c
        obtain ⟨g2, q2, _, r2⟩ := IBb.belowAt (Nat.le_refl _) b t c
        cases q1
        cases q2
        rw [hJ2] at r1
        rw [hK2'] at r2
        exact ⟨r1, r2⟩
       have qt : ¬ ((t : Int) = (x1.length : Int)) := by omega
       have qt2 : ((t : Int) == (x1.length : Int)) = false := beqJ qt
       obtain ⟨Q, hQ⟩ : ∃ Q, P ++ ptK x1 x2 x3 ((m, J, K), (t, J2, K2)) = Q := ⟨_, rfl⟩
       have HEN : Hid (Q ++ (rest3 A B (x1.length, x2.length, x3.length) x1.length (t, J2, K2)).flatMap (ptK x1 x2 x3) = T) := by show _ = _; rw [<- hQ, List.append_assoc]; exact hE2
       obtain ⟨A10, hA10⟩ : ∃ A, (if c1 = m then a1 else Option.map (fun x => x.add m) a1) = A := ⟨_, rfl⟩
       have e10 : segV a1 c1 m t = .slice A10 (t - m) (c1 - m) := by unfold segV segA; rw [hA10]
       obtain ⟨A11, hA11⟩ : ∃ A, (if c2 = J then a2 else Option.map (fun x => x.add J) a2) = A := ⟨_, rfl⟩
       have e11 : segV a2 c2 J J2 = .slice A11 (J2 - J) (c2 - J) := by unfold segV segA; rw [hA11]
       obtain ⟨A12, hA12⟩ : ∃ A, (if c3 = K then a3 else Option.map (fun x => x.add K) a3) = A := ⟨_, rfl⟩
       have e12 : segV a3 c3 K K2 = .slice A12 (K2 - K) (c3 - K) := by unfold segV segA; rw [hA12]
       have hPut1 := fun W (b : Below wr.heap.size wr W) => putSeg w2.heap.size (.slice ra1 P.length rc1) P sl1 a1 a2 a3 c1 c2 c3 x1 x2 x3 m J K t J2 K2 W w.heap.size (hO1.below b) (by have := b.size; omega) ((X2.belowAt (hbel1.mono z12)).belowAt (b.mono (by omega))) (by have := b.size; omega) hZ hN hLn1 hle1 hleE1
       rw [e10, e11, e12] at hPut1
       clear e10 e11 e12
       have hVb1 : ∀ b, (Value.slice ra1 P.length rc1).ownBlock = some b -> w2.heap.size <= b := fun b hb => (hO1.row.lt b hb).1
       rw [hQ] at hPut1
       have HM : Hid (2 * (x1.length - t) + (if A t = (J2 : Int) /\ B t = (K2 : Int) then 0 else 1) < 2 * (x1.length - i) + (if A i = (j : Int) /\ B i = (k : Int) then 0 else 1)) := by
        show _ < _
        rw [if_pos ⟨hJ2, hK2'⟩]
        by_cases hit : i < t
        ·split <;> omega
        ·have hn0 : n = 0 := by omega
         have hti : t = i := by omega
         rcases hprog with h | h
         ·omega
         ·rw [if_neg (h (by omega))]; omega
       clear hE2 hK2 hre hlen1 h3 hb3 eJ eK hQ hprog hAt hBt hJ2 hK2'
       go_upto_region 20 with fail
       go_cut [9] from 119 to 139 (fun s wx => ∃ ra' rc' sl' W', W' = wx /\ s = .slice ra' Q.length rc' /\ KO w2.heap.size W' (.slice ra' Q.length rc') Q sl' /\ Below w2.heap.size w2 W')
       case first =>
        have BD : Below wr.heap.size wr wr.drew := (Below.refl _ _).drew
        have belD := below_drew hbel1
        go_region_held (fun w' => w'.cell? ⟨ga, t, none⟩ = some (.int .i64 (J2 : Int)) /\ w'.cell? ⟨gb, t, none⟩ = some (.int .i64 (K2 : Int))) (first | with_reducible exact ⟨ma, mb⟩ | exact ⟨ma, mb⟩) ((go_at_call 121; refine (hPut1 _ (by first | with_reducible exact BD | exact BD)).mono ?_; rintro e w3 ⟨v', sl', rfl, O3, G3⟩; have ma := G3.cell ma (fun e => absurd (hVb1 ga e.symm) (Nat.not_le_of_lt la)); have mb := G3.cell mb (fun e => absurd (hVb1 gb e.symm) (Nat.not_le_of_lt lb))))
        all_goals
         obtain ⟨ra', rc', er'⟩ := shapeK O3.row
         subst er'
         have B3 : Below w2.heap.size w2 w3 := belD.grown G3 (by show w2.heap.size <= wr.heap.size; omega) (fun j hj => hVb1 j hj)
         go_wp2_with fail
         go_meet
         first | exact ⟨_, _, _, _, rfl, rfl, O3, B3⟩ | exact ⟨_, _, _, _, rfl, rfl, O3.below (below_drew (Below.refl _ _)), below_drew B3⟩
       case rest =>
       obtain ⟨ra2, rc2, sl2, V2, rfl, rfl, hO2, hbel2⟩ := hcut
       have ma' : V2.cell? ⟨ga, t, none⟩ = some (.int .i64 (J2 : Int)) := (hcar2 V2 hbel2).1
       have mb' : V2.cell? ⟨gb, t, none⟩ = some (.int .i64 (K2 : Int)) := (hcar2 V2 hbel2).2
       clear hPut1 hA10 hA11 hA12 hVb1 hO1 hbel1 ma mb hcar2
       go_wp2
       go_roundw
       case rel => exact ⟨t, J2, K2, Q, sl2, rfl, rfl, rfl, ht, b3J, b3K, hO2, hbel2, HEN, HKN⟩
       case measure => first | (simp only [intOf, Int.toNat_natCast]; exact HM.out) | (simp [intOf]; exact HM.out) | (have := HM.out; simpa [intOf] using this)
      ·obtain rfl : t = x1.length := by omega
       have e0 : keptR A B x1.length (x1.length - x1.length) = [] := by rw [Nat.sub_self, keptR_zero]
       rw [e0, segs_nil] at hE2 hK2
       have hk1 := hK2 _ (List.mem_cons_self ..)
       obtain ⟨hle2, hleE2⟩ := hk1
       simp only [] at hle2 hleE2
       rw [List.flatMap_cons, List.flatMap_nil] at hE2
       have hlen2 := lenApp hE2 hT
       have hLn2 := hlen2.1
       rw [List.append_nil] at hE2
       have HTT : Hid (P ++ ptK x1 x2 x3 ((m, J, K), (x1.length, x2.length, x3.length)) = T) := hE2
       have qt2 : ((x1.length : Int) == (x1.length : Int)) = true := beqI rfl
       have hO2 := hO1
       have hbel2 := hbel1
       have k1x : x1.length <= c1 := hZ.k1
       have k2x : x2.length <= c2 := hZ.k2
       have k3x : x3.length <= c3 := hZ.k3
       obtain ⟨A20, hA20⟩ : ∃ A, (if c1 = m then a1 else Option.map (fun x => x.add m) a1) = A := ⟨_, rfl⟩
       have e20 : segV a1 c1 m x1.length = .slice A20 (x1.length - m) (c1 - m) := by unfold segV segA; rw [hA20]
       obtain ⟨A21, hA21⟩ : ∃ A, (if c2 = J then a2 else Option.map (fun x => x.add J) a2) = A := ⟨_, rfl⟩
       have e21 : segV a2 c2 J x2.length = .slice A21 (x2.length - J) (c2 - J) := by unfold segV segA; rw [hA21]
       obtain ⟨A22, hA22⟩ : ∃ A, (if c3 = K then a3 else Option.map (fun x => x.add K) a3) = A := ⟨_, rfl⟩
       have e22 : segV a3 c3 K x3.length = .slice A22 (x3.length - K) (c3 - K) := by unfold segV segA; rw [hA22]
       have hPut2 := fun W (b : Below wr.heap.size wr W) => putSeg w2.heap.size (.slice ra1 P.length rc1) P sl1 a1 a2 a3 c1 c2 c3 x1 x2 x3 m J K x1.length x2.length x3.length W w.heap.size (hO2.below b) (by have := b.size; omega) ((X2.belowAt (hbel2.mono z12)).belowAt (b.mono (by omega))) (by have := b.size; omega) hZ hN hLn2 hle2 hleE2
       rw [e20, e21, e22] at hPut2
       clear e20 e21 e22
       have hVb2 : ∀ b, (Value.slice ra1 P.length rc1).ownBlock = some b -> w2.heap.size <= b := fun b hb => (hO2.row.lt b hb).1
       rw [HTT.out] at hPut2
       clear hE2 hK2 hlen2 h3 e0 hprog hO1 hbel1
       go_upto_region 19 with fail
       go_cut [6] from 108 to 119 (fun s wx => ∃ ra' rc' sl' W', W' = wx /\ s = .slice ra' T.length rc' /\ KO w2.heap.size W' (.slice ra' T.length rc') T sl' /\ Below w2.heap.size w2 W')
       case first =>
        have BD : Below wr.heap.size wr wr.drew := (Below.refl _ _).drew
        have belD := below_drew hbel2
        go_region_with ((go_at_call 121; refine (hPut2 _ (by first | with_reducible exact BD | exact BD)).mono ?_; rintro e w3 ⟨v', sl', rfl, O3, G3⟩))
        all_goals
         obtain ⟨ra', rc', er'⟩ := shapeK O3.row
         subst er'
         have B3 : Below w2.heap.size w2 w3 := belD.grown G3 (by show w2.heap.size <= wr.heap.size; omega) (fun j hj => hVb2 j hj)
         go_wp2_with fail
         go_meet
         first | exact ⟨_, _, _, _, rfl, rfl, O3, B3⟩ | exact ⟨_, _, _, _, rfl, rfl, O3.below (below_drew (Below.refl _ _)), below_drew B3⟩
       case rest =>
       obtain ⟨ra3, rc3, sl3, V3, rfl, rfl, hO3, hbel3⟩ := hcut
       have HF : Hid (KPs T w (.returned (.slice ra3 T.length rc3)) V3) := ⟨_, _, rfl, hO3.mono z12, B2.trans (hbel3.mono z12)⟩
       clear hPut2 hA20 hA21 hA22 hVb2 hO2 hbel2
       go_wp2
       go_ret
       exact HF.out
end Go.Proofs.YtcfnkndbhpdfnaaGreatDoor
namespace Go.Proofs.YtcfnkndbhpdfnaaGreatDoor
open Go.ChangeShapes Go.WideShapes Go.ChangeAt Go.RowKit
theorem TP.ofRow {w : World} {base : Nat} {v : Value} {l : List T3} (h : w.ownsRow base 219 3 v l.length (t3Cells l)) : ∃ a c, v = .slice a l.length c /\ TP w.heap.size w a l /\ l.length <= c := by
 obtain ⟨a, c, e⟩ := shapeK h
 subst e
 refine ⟨a, c, rfl, TP.of h, ?_⟩
 rcases h.2 with ⟨h', h0⟩ | ⟨g, cap, cur, h', _, _, hc, _⟩
 ·omega
 ·cases h'; exact hc
theorem chunksKept (a1 a2 a3 : Option Addr) (c1 c2 c3 : Nat) (x1 x2 x3 : List ByteArray) (w : World) (hX : X3 w.heap.size w a1 a2 a3 c1 c2 c3 x1 x2 x3) (hZ : Z3 c1 c2 c3 x1 x2 x3) (ka : Option Addr) (kc : Nat) (hK : TP w.heap.size w ka (kpL x1 x2 x3)) (hKc : (kpL x1 x2 x3).length <= kc) (n1 : x1.length <= 100) :
  Calls Tryz.prog 157 #[.agg #[.slice a1 x1.length c1, .slice a2 x2.length c2, .slice a3 x3.length c3], .slice ka (kpL x1 x2 x3).length kc] w fun e w' => KPost (ckT x1 x2 x3) w e w' :=
 chunksAround a1 a2 a3 c1 c2 c3 x1 x2 x3 ka kc (kpL x1 x2 x3) w hX hZ hK hKc (by have := kp_len x1 x2 x3; omega) (kp_small hZ.n1 hZ.n2 hZ.n3) (kp_ok x1 x2 x3) (by have := ckT_len x1 x2 x3; unfold ckT at this; omega)
theorem keptC (a1 a2 a3 : Option Addr) (c1 c2 c3 : Nat) (x1 x2 x3 : List ByteArray) (w : World) (hX : X3 w.heap.size w a1 a2 a3 c1 c2 c3 x1 x2 x3) (n1 : x1.length <= 100) (n2 : x2.length <= 100) (n3 : x3.length <= 100) :
  Calls Tryz.prog 158 #[.agg #[.slice a1 x1.length c1, .slice a2 x2.length c2, .slice a3 x3.length c3]] w fun e w' => KeptPost w (kpL x1 x2 x3) e w' := by
 rw [<- kp_keep]
 exact keptPlaces a1 a2 a3 c1 c2 c3 x1 x2 x3 w (hX.s1.toSS (Nat.le_refl _)) (hX.s2.toSS (Nat.le_refl _)) (hX.s3.toSS (Nat.le_refl _)) n1 n2 n3
theorem X3.mono {B B' : Nat} {w : World} {a1 a2 a3 : Option Addr} {c1 c2 c3 : Nat} {x1 x2 x3 : List ByteArray} (h : X3 B w a1 a2 a3 c1 c2 c3 x1 x2 x3) (hb : B <= B') : X3 B' w a1 a2 a3 c1 c2 c3 x1 x2 x3 := ⟨h.s1.mono hb, h.s2.mono hb, h.s3.mono hb⟩
end Go.Proofs.YtcfnkndbhpdfnaaGreatDoor
