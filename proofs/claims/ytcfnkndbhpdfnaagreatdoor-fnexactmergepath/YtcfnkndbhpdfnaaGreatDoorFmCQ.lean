/- Small contracts: which modes files have, which stages entries have. No statement is proved here. -/
import Derived.Test.YtcfnkndbhpdfnaaGreatDoorCkLQ
import Derived.Laws.Cover1
import Derived.Deep.RegionWith
import Derived.Maps.AppendAt
import Derived.Deep.Strs
import Derived.Lib.SmallJoins
import Derived.OpenShut
import Derived.ShutString
namespace Go.Proofs.YtcfnkndbhpdfnaaGreatDoor
open Go.ChangeShapes Go.WideShapes Go.ChangeAt Go.RowKit
theorem mode_yes {x : Int} (h : inB x 1 2 = true) : x = 1 \/ x = 2 := by
 unfold inB at h
 simp at h
 omega
theorem mode_no {x : Int} (h : inB x 1 2 = false) : (x == 1) = false /\ (x == 2) = false := by
 refine ⟨?_, ?_⟩
 ·cases e : x == 1 with
  | false => rfl
  | true => simp at e; subst e; simp [inB] at h
 ·cases e : x == 2 with
  | false => rfl
  | true => simp at e; subst e; simp [inB] at h
theorem isFileModeC (x : Int) (w : World) : Calls Tryz.prog 79 #[.int .i64 x] w fun e w' => e = .returned (.bool (inB x 1 2)) /\ w' = w := by
 cases h : inB x 1 2 with
 | true =>
  rcases mode_yes h with rfl | rfl
  ·clear h
   go_enter Tryz.func79, Tryz.ntmps79
   go_wp2
   go_ret
   exact ⟨rfl, rfl⟩
  ·clear h
   go_enter Tryz.func79, Tryz.ntmps79
   go_wp2
   go_ret
   exact ⟨rfl, rfl⟩
 | false =>
  obtain ⟨h1, h2⟩ := mode_no h
  clear h
  go_enter Tryz.func79, Tryz.ntmps79
  go_wp2
  go_ret
  exact ⟨rfl, rfl⟩
end Go.Proofs.YtcfnkndbhpdfnaaGreatDoor
namespace Go.Proofs.YtcfnkndbhpdfnaaGreatDoor
open Go.ChangeShapes Go.WideShapes Go.ChangeAt Go.RowKit
theorem Fr.ofSet (w : World) (b o : Nat) (v : Value) : Fr b (b + 1) w (w.setCell ⟨b, o, none⟩ v) := Fr.ofGrown (grownSet w b o v) (fun j hj => by cases hj; omega)
end Go.Proofs.YtcfnkndbhpdfnaaGreatDoor
namespace Go.Proofs.YtcfnkndbhpdfnaaGreatDoor
open Go.ChangeShapes Go.WideShapes Go.ChangeAt Go.RowKit
theorem threeK {i k : Nat} (h : i < (k + 1) * 3) : i < k * 3 \/ i = k * 3 \/ i = k * 3 + 1 \/ i = k * 3 + 2 := by omega
theorem fourSets (w : World) (b o : Nat) (v0 v1 v2 v3 : Value) : Fr b (b + 1) w ((((w.setCell ⟨b, o, none⟩ v0).setCell ⟨b, o + 1, none⟩ v1).setCell ⟨b, o + 2, none⟩ v2).setCell ⟨b, o + 3, none⟩ v3) := by
 have G : ∀ (u : World) (o : Nat) (v : Value), Fr b (b + 1) u (u.setCell ⟨b, o, none⟩ v) := fun u o v => Fr.ofGrown (grownSet u b o v) (fun j hj => by cases hj; omega)
 exact (((G _ _ _).trans (G _ _ _)).trans (G _ _ _)).trans (G _ _ _)
end Go.Proofs.YtcfnkndbhpdfnaaGreatDoor
namespace Go.Proofs.YtcfnkndbhpdfnaaGreatDoor
abbrev T3 := Nat × Nat × Nat
def keep3 : List (Nat × Nat) -> List (Nat × Nat) -> List T3
 | [], _ => []
 | _ :: _, [] => []
 | (p, q) :: xs, (r, s) :: ys => if p < r then keep3 xs ((r, s) :: ys) else if r < p then keep3 ((p, q) :: xs) ys else (p, q, s) :: keep3 xs ys
 termination_by xs ys => xs.length + ys.length
theorem keep3_nil_left (ys : List (Nat × Nat)) : keep3 [] ys = [] := by rw [keep3]
theorem keep3_nil_right (xs : List (Nat × Nat)) : keep3 xs [] = [] := by cases xs <;> rw [keep3]
theorem keep3_lt {p q r s : Nat} (xs ys : List (Nat × Nat)) (h : p < r) : keep3 ((p, q) :: xs) ((r, s) :: ys) = keep3 xs ((r, s) :: ys) := by rw [keep3, if_pos h]
theorem keep3_gt {p q r s : Nat} (xs ys : List (Nat × Nat)) (h : r < p) : keep3 ((p, q) :: xs) ((r, s) :: ys) = keep3 ((p, q) :: xs) ys := by rw [keep3, if_neg (by omega), if_pos h]
theorem keep3_eq {p q s : Nat} (xs ys : List (Nat × Nat)) : keep3 ((p, q) :: xs) ((p, s) :: ys) = (p, q, s) :: keep3 xs ys := by rw [keep3, if_neg (by omega), if_neg (by omega)]
def part (l : List (Nat × Nat)) (i : Nat) : Int := match l.find? (fun p => p.1 == i) with
 | some p => (p.2 : Int)
 | none => -1
theorem part_nil (i : Nat) : part [] i = -1 := rfl
theorem part_cons (p : Nat × Nat) (l : List (Nat × Nat)) (i : Nat) : part (p :: l) i = if p.1 = i then (p.2 : Int) else part l i := by
 unfold part
 by_cases h : p.1 = i
 ·simp [h]
 ·simp [h]
theorem part_none {l : List (Nat × Nat)} {i : Nat} (h : ∀ p ∈ l, p.1 ≠ i) : part l i = -1 := by
 induction l with
 | nil => rfl
 | cons p t ih =>
  rw [part_cons, if_neg (h p (List.mem_cons_self ..))]
  exact ih fun q hq => h q (List.mem_cons_of_mem _ hq)
theorem part_cases (l : List (Nat × Nat)) (i : Nat) : part l i = -1 \/ ∃ j : Nat, part l i = j /\ (i, j) ∈ l := by
 induction l with
 | nil => exact .inl rfl
 | cons p t ih =>
  rw [part_cons]
  by_cases h : p.1 = i
  ·rw [if_pos h]
   exact .inr ⟨p.2, rfl, by rw [<- h]; exact List.mem_cons_self ..⟩
  ·rw [if_neg h]
   rcases ih with e | ⟨j, e, hm⟩
   ·exact .inl e
   ·exact .inr ⟨j, e, List.mem_cons_of_mem _ hm⟩
theorem part_snoc {l : List (Nat × Nat)} {p : Nat × Nat} (h : ∀ q ∈ l, q.1 ≠ p.1) (i : Nat) : part (l ++ [p]) i = if i = p.1 then (p.2 : Int) else part l i := by
 induction l with
 | nil =>
  rw [List.nil_append, part_cons]
  by_cases e : p.1 = i
  ·rw [if_pos e, if_pos e.symm]
  ·rw [if_neg e, if_neg (fun q => e q.symm)]
 | cons q t ih =>
  rw [List.cons_append, part_cons, part_cons, ih fun x hx => h x (List.mem_cons_of_mem _ hx)]
  by_cases e : q.1 = i
  ·rw [if_pos e, if_pos e, if_neg (fun k => h q (List.mem_cons_self ..) (by omega))]
  ·rw [if_neg e, if_neg e]
def both (A B : Nat -> Int) (i : Nat) : Bool := decide (0 <= A i /\ 0 <= B i)
def keptR (A B : Nat -> Int) : Nat -> Nat -> List T3
 | _, 0 => []
 | i, n + 1 => if both A B i = true then (i, (A i).toNat, (B i).toNat) :: keptR A B (i + 1) n else keptR A B (i + 1) n
theorem keptR_zero (A B : Nat -> Int) (i : Nat) : keptR A B i 0 = [] := rfl
theorem keptR_yes {A B : Nat -> Int} {i : Nat} (h : both A B i = true) (n : Nat) : keptR A B i (n + 1) = (i, (A i).toNat, (B i).toNat) :: keptR A B (i + 1) n := by rw [keptR, if_pos h]
theorem keptR_no {A B : Nat -> Int} {i : Nat} (h : both A B i = false) (n : Nat) : keptR A B i (n + 1) = keptR A B (i + 1) n := by rw [keptR, if_neg (by rw [h]; decide)]
theorem keptR_congr {A B A' B' : Nat -> Int} : ∀ (n i : Nat), (∀ j, i <= j -> A j = A' j /\ B j = B' j) -> keptR A B i n = keptR A' B' i n := by
 intro n
 induction n with
 | zero => intro i _; rfl
 | succ n ih =>
  intro i h
  have e := ih (i + 1) fun j hj => h j (by omega)
  obtain ⟨e1, e2⟩ := h i (Nat.le_refl _)
  rw [keptR, keptR, e]
  unfold both
  rw [e1, e2]
theorem keep3_kept : ∀ (n i : Nat) (la lb : List (Nat × Nat)), la.Pairwise (fun p q => p.1 < q.1) -> lb.Pairwise (fun p q => p.1 < q.1) -> (∀ p ∈ la, i <= p.1 /\ p.1 < i + n) -> (∀ p ∈ lb, i <= p.1 /\ p.1 < i + n) ->
  keep3 la lb = keptR (part la) (part lb) i n := by
 intro n
 induction n with
 | zero =>
  intro i la lb _ _ ha hb
  cases la with
  | nil => rw [keep3_nil_left]; rfl
  | cons p t => exact absurd (ha p (List.mem_cons_self ..)) (by omega)
 | succ n ih =>
  intro i la lb sa sb ha hb
  -- a list whose first is at i, or none is
  have part1 : ∀ (l : List (Nat × Nat)), l.Pairwise (fun p q => p.1 < q.1) -> (∀ p ∈ l, i <= p.1 /\ p.1 < i + (n + 1)) -> (∃ j t, l = (i, j) :: t /\ t.Pairwise (fun p q => p.1 < q.1) /\ (∀ p ∈ t, i + 1 <= p.1 /\ p.1 < i + 1 + n) /\ part l i = (j : Int) /\ (∀ m, i + 1 <= m -> part l m = part t m)) \/ ((∀ p ∈ l, i + 1 <= p.1 /\ p.1 < i + 1 + n) /\ part l i = -1) := by
   intro l sl hl
   cases l with
   | nil => exact .inr ⟨fun p hp => (by cases hp), rfl⟩
   | cons p t =>
    obtain ⟨h1, h2⟩ := List.pairwise_cons.1 sl
    have hp := hl p (List.mem_cons_self ..)
    by_cases e : p.1 = i
    ·left
     obtain ⟨p1, p2⟩ := p
     simp only [] at e h1
     subst e
     refine ⟨p2, t, rfl, h2, fun q hq => ?_, by rw [part_cons, if_pos rfl], fun m hm => by rw [part_cons, if_neg (by simp only []; omega)]⟩
     have := h1 q hq
     have := hl q (List.mem_cons_of_mem _ hq)
     omega
    ·right
     refine ⟨fun q hq => ?_, part_none fun q hq => ?_⟩
     ·rcases List.mem_cons.1 hq with rfl | hq
      ·omega
      ·have := h1 q hq
       have := hl q (List.mem_cons_of_mem _ hq)
       omega
     ·rcases List.mem_cons.1 hq with rfl | hq
      ·exact e
      ·have := h1 q hq; omega
  rcases part1 la sa ha with ⟨j, t, rfl, st, ht, pe, pr⟩ | ⟨hla, pe⟩
  ·rcases part1 lb sb hb with ⟨j', t', rfl, st', ht', pe', pr'⟩ | ⟨hlb, pe'⟩
   ·rw [keep3_eq, keptR_yes (by unfold both; rw [pe, pe']; exact decide_eq_true (by omega)), pe, pe', ih (i + 1) t t' st st' ht ht', keptR_congr n (i + 1) fun m hm => ⟨pr m hm, pr' m hm⟩]
    rfl
   ·rw [keptR_no (by unfold both; rw [pe']; exact decide_eq_false (by omega)), keptR_congr n (i + 1) fun m hm => ⟨pr m hm, rfl⟩, <- ih (i + 1) t lb st sb ht hlb]
    cases lb with
    | nil => rw [keep3_nil_right, keep3_nil_right]
    | cons r rs =>
     obtain ⟨r1, r2⟩ := r
     have := hlb (r1, r2) (List.mem_cons_self ..)
     rw [keep3_lt _ _ (by simp only [] at this; omega)]
  ·rcases part1 lb sb hb with ⟨j', t', rfl, st', ht', pe', pr'⟩ | ⟨hlb, pe'⟩
   ·rw [keptR_no (by unfold both; rw [pe]; exact decide_eq_false (by omega)), keptR_congr n (i + 1) fun m hm => ⟨rfl, pr' m hm⟩, <- ih (i + 1) la t' sa st' hla ht']
    cases la with
    | nil => rw [keep3_nil_left, keep3_nil_left]
    | cons r rs =>
     obtain ⟨r1, r2⟩ := r
     have := hla (r1, r2) (List.mem_cons_self ..)
     rw [keep3_gt _ _ (by simp only [] at this; omega)]
   ·rw [keptR_no (by unfold both; rw [pe]; exact decide_eq_false (by omega)), <- ih (i + 1) la lb sa sb hla hlb]
def nx (p : T3) : T3 := (p.1 + 1, p.2.1 + 1, p.2.2 + 1)
def ad (p : T3) (n : Nat) : T3 := (p.1 + n, p.2.1 + n, p.2.2 + n)
def tog : T3 -> List T3 -> Nat
 | _, [] => 0
 | p, q :: r => if q = nx p then tog q r + 1 else 0
theorem tog_nil (p : T3) : tog p [] = 0 := rfl
theorem tog_yes (p : T3) (r : List T3) : tog p (nx p :: r) = tog (nx p) r + 1 := by rw [tog, if_pos rfl]
theorem tog_no {p q : T3} (r : List T3) (h : ¬ q = nx p) : tog p (q :: r) = 0 := by rw [tog, if_neg h]
theorem tog_le : ∀ (r : List T3) (p : T3), tog p r <= r.length := by
 intro r
 induction r with
 | nil => intro p; exact Nat.zero_le _
 | cons q t ih =>
  intro p
  rw [tog]
  split
  ·have := ih q; simp only [List.length_cons]; omega
  ·exact Nat.zero_le _
def segs (E : T3) : T3 -> List T3 -> List (T3 × T3)
 | f, [] => [(f, E)]
 | f, p :: r => (f, p) :: (p, ad p (tog p r + 1)) :: segs E (ad p (tog p r + 1)) (r.drop (tog p r))
 termination_by _ l => l.length
 decreasing_by simp only [List.length_drop, List.length_cons]; omega
theorem segs_nil (E f : T3) : segs E f [] = [(f, E)] := by rw [segs]
theorem segs_cons (E f p : T3) (r : List T3) : segs E f (p :: r) = (f, p) :: (p, ad p (tog p r + 1)) :: segs E (ad p (tog p r + 1)) (r.drop (tog p r)) := by rw [segs]
def runF (A B : Nat -> Int) : Nat -> T3 -> Nat
 | 0, _ => 0
 | n + 1, p => if A p.1 = (p.2.1 : Int) /\ B p.1 = (p.2.2 : Int) then runF A B n (nx p) + 1 else 0
theorem runF_yes {A B : Nat -> Int} {p : T3} (n : Nat) (h : A p.1 = (p.2.1 : Int) /\ B p.1 = (p.2.2 : Int)) : runF A B (n + 1) p = runF A B n (nx p) + 1 := by rw [runF, if_pos h]
theorem runF_no {A B : Nat -> Int} {p : T3} (n : Nat) (h : ¬ (A p.1 = (p.2.1 : Int) /\ B p.1 = (p.2.2 : Int))) : runF A B (n + 1) p = 0 := by rw [runF, if_neg h]
theorem ad_zero (p : T3) : ad p 0 = p := rfl
theorem ad_nx (p : T3) (n : Nat) : ad (nx p) n = ad p (n + 1) := by unfold ad nx; simp only [Prod.mk.injEq]; omega
theorem run_tog (A B : Nat -> Int) : ∀ (n : Nat) (p : T3), runF A B n (nx p) = tog p (keptR A B (p.1 + 1) n) /\ (keptR A B (p.1 + 1) n).drop (tog p (keptR A B (p.1 + 1) n)) = keptR A B (p.1 + 1 + tog p (keptR A B (p.1 + 1) n)) (n - tog p (keptR A B (p.1 + 1) n)) := by
 intro n
 induction n with
 | zero => intro p; exact ⟨rfl, rfl⟩
 | succ n ih =>
  intro p
  by_cases h : A (nx p).1 = ((nx p).2.1 : Int) /\ B (nx p).1 = ((nx p).2.2 : Int)
  ·have hb : both A B (p.1 + 1) = true := by
    unfold both
    have h1 : A (p.1 + 1) = ((p.2.1 + 1 : Nat) : Int) := h.1
    have h2 : B (p.1 + 1) = ((p.2.2 + 1 : Nat) : Int) := h.2
    rw [h1, h2]
    exact decide_eq_true (by omega)
   have he : (p.1 + 1, (A (p.1 + 1)).toNat, (B (p.1 + 1)).toNat) = nx p := by
    have h1 : A (p.1 + 1) = ((p.2.1 + 1 : Nat) : Int) := h.1
    have h2 : B (p.1 + 1) = ((p.2.2 + 1 : Nat) : Int) := h.2
    rw [h1, h2]
    rfl
   obtain ⟨i1, i2⟩ := ih (nx p)
   rw [runF_yes n h, keptR_yes hb, he, tog_yes, i1]
   refine ⟨rfl, ?_⟩
   rw [List.drop_succ_cons]
   have e : n + 1 - (tog (nx p) (keptR A B (p.1 + 1 + 1) n) + 1) = n - tog (nx p) (keptR A B (p.1 + 1 + 1) n) := by omega
   rw [e]
   have e2 : p.1 + 1 + (tog (nx p) (keptR A B (p.1 + 1 + 1) n) + 1) = (nx p).1 + 1 + tog (nx p) (keptR A B (p.1 + 1 + 1) n) := by show _ = p.1 + 1 + 1 + _; omega
   rw [e2]
   exact i2
  ·rw [runF_no n h]
   have hz : tog p (keptR A B (p.1 + 1) (n + 1)) = 0 := by
    cases hb : both A B (p.1 + 1) with
    | true =>
     rw [keptR_yes hb]
     refine tog_no _ fun e => h ?_
     unfold both at hb
     have hb := of_decide_eq_true hb
     simp only [nx, Prod.mk.injEq] at e
     show A (p.1 + 1) = ((p.2.1 + 1 : Nat) : Int) /\ B (p.1 + 1) = ((p.2.2 + 1 : Nat) : Int)
     omega
    | false =>
     -- what is kept further on does not follow at once
     rw [keptR_no hb]
     have key : ∀ (m i : Nat), p.1 + 1 < i -> tog p (keptR A B i m) = 0 := by
      intro m
      induction m with
      | zero => intro i _; rfl
      | succ m im =>
       intro i hi
       cases hb : both A B i with
       | true =>
        rw [keptR_yes hb]
        refine tog_no _ fun e => ?_
        simp only [nx, Prod.mk.injEq] at e
        omega
       | false => rw [keptR_no hb]; exact im (i + 1) (by omega)
     exact key n (p.1 + 1 + 1) (by omega)
   rw [hz]
   exact ⟨rfl, rfl⟩
theorem segs_run {A B : Nat -> Int} {E f : T3} {i n : Nat} (h : both A B i = true) :
  segs E f (keptR A B i (n + 1)) = (f, (i, (A i).toNat, (B i).toNat)) :: ((i, (A i).toNat, (B i).toNat), ad (i, (A i).toNat, (B i).toNat) (runF A B (n + 1) (i, (A i).toNat, (B i).toNat))) :: segs E (ad (i, (A i).toNat, (B i).toNat) (runF A B (n + 1) (i, (A i).toNat, (B i).toNat))) (keptR A B (i + runF A B (n + 1) (i, (A i).toNat, (B i).toNat)) (n + 1 - runF A B (n + 1) (i, (A i).toNat, (B i).toNat))) := by
 have hb := of_decide_eq_true h
 have hr : runF A B (n + 1) (i, (A i).toNat, (B i).toNat) = tog (i, (A i).toNat, (B i).toNat) (keptR A B (i + 1) n) + 1 := by
  rw [runF_yes n (by simp only []; omega), (run_tog A B n (i, (A i).toNat, (B i).toNat)).1]
 have h2 := (run_tog A B n (i, (A i).toNat, (B i).toNat)).2
 simp only [] at h2
 rw [keptR_yes h, segs_cons, hr, h2]
 have e1 : i + 1 + tog (i, (A i).toNat, (B i).toNat) (keptR A B (i + 1) n) = i + (tog (i, (A i).toNat, (B i).toNat) (keptR A B (i + 1) n) + 1) := by omega
 have e2 : n - tog (i, (A i).toNat, (B i).toNat) (keptR A B (i + 1) n) = n + 1 - (tog (i, (A i).toNat, (B i).toNat) (keptR A B (i + 1) n) + 1) := by omega
 rw [e1, e2]
def le3 (p q : T3) : Prop := p.1 <= q.1 /\ p.2.1 <= q.2.1 /\ p.2.2 <= q.2.2
def lt3 (p q : T3) : Prop := p.1 < q.1 /\ p.2.1 < q.2.1 /\ p.2.2 < q.2.2
theorem tog_drop : ∀ (r : List T3) (p : T3), (p :: r).Pairwise lt3 -> ∀ q ∈ r.drop (tog p r), le3 (ad p (tog p r + 1)) q := by
 intro r
 induction r with
 | nil => intro p _ q hq; simp [tog_nil] at hq
 | cons x t ih =>
  intro p hp q hq
  obtain ⟨h1, h2⟩ := List.pairwise_cons.1 hp
  by_cases e : x = nx p
  ·subst e
   rw [tog_yes] at hq ⊢
   rw [List.drop_succ_cons] at hq
   have := ih (nx p) h2 q hq
   rw [ad_nx] at this
   exact this
  ·rw [tog_no t e] at hq ⊢
   have := h1 q hq
   unfold lt3 at this
   unfold le3 ad
   simp only []
   omega
theorem segs_ok (E : T3) : ∀ (n : Nat) (l : List T3) (f : T3), l.length <= n -> le3 f E -> l.Pairwise lt3 -> (∀ p ∈ l, le3 f p /\ le3 (nx p) E) -> ∀ x ∈ segs E f l, le3 x.1 x.2 /\ le3 x.2 E := by
 intro n
 induction n with
 | zero =>
  intro l f hl hf _ _ x hx
  have : l = [] := List.length_eq_zero_iff.1 (by omega)
  subst this
  rw [segs_nil] at hx
  obtain rfl := List.mem_singleton.1 hx
  exact ⟨hf, ⟨Nat.le_refl _, Nat.le_refl _, Nat.le_refl _⟩⟩
 | succ n ih =>
  intro l f hl hf hp hm x hx
  cases l with
  | nil =>
   rw [segs_nil] at hx
   obtain rfl := List.mem_singleton.1 hx
   exact ⟨hf, ⟨Nat.le_refl _, Nat.le_refl _, Nat.le_refl _⟩⟩
  | cons p r =>
   rw [segs_cons] at hx
   obtain ⟨m1, m2⟩ := hm p (List.mem_cons_self ..)
   -- the end of the run
   have hend : ∀ (r : List T3) (p : T3), (∀ q ∈ p :: r, le3 (nx q) E) -> le3 (ad p (tog p r + 1)) E := by
    intro r
    induction r with
    | nil => intro p h; exact h p (List.mem_cons_self ..)
    | cons y t ih2 =>
     intro p h
     by_cases e : y = nx p
     ·subst e
      rw [tog_yes]
      have := ih2 (nx p) fun q hq => h q (List.mem_cons_of_mem _ hq)
      rw [ad_nx] at this
      exact this
     ·rw [tog_no t e]; exact h p (List.mem_cons_self ..)
   have he := hend r p fun q hq => (hm q hq).2
   rcases List.mem_cons.1 hx with rfl | hx
   ·refine ⟨m1, ?_⟩
    unfold le3 nx at m2
    unfold le3
    simp only [] at m2 ⊢
    omega
   ·rcases List.mem_cons.1 hx with rfl | hx
    ·refine ⟨?_, he⟩
     unfold le3 ad
     simp only []
     omega
    ·have hr : (p :: r).Pairwise lt3 := hp
     refine ih (r.drop (tog p r)) _ (by simp only [List.length_drop, List.length_cons] at hl ⊢; omega) he ?_ ?_ x hx
     ·exact List.Pairwise.sublist (List.drop_sublist _ _) (List.pairwise_cons.1 hp).2
     ·intro q hq
      exact ⟨tog_drop r p hr q hq, (hm q (List.mem_cons_of_mem _ (List.mem_of_mem_drop hq))).2⟩
theorem segs_start {α : Type} (A B : Nat -> Int) (E : T3) (N : Nat) (pt : T3 × T3 -> List α) (h0 : ∀ p, pt (p, p) = []) :
  (segs E (0, 0, 0) (keptR A B 0 N)).flatMap pt = (((0, 0, 0), ad (0, 0, 0) (runF A B N (0, 0, 0))) :: segs E (ad (0, 0, 0) (runF A B N (0, 0, 0))) (keptR A B (runF A B N (0, 0, 0)) (N - runF A B N (0, 0, 0)))).flatMap pt := by
 cases N with
 | zero =>
  rw [List.flatMap_cons]
  show _ = pt ((0, 0, 0), (0, 0, 0)) ++ _
  rw [h0]; rfl
 | succ n =>
  by_cases h : A 0 = 0 /\ B 0 = 0
  ·have hb : both A B 0 = true := by unfold both; rw [h.1, h.2]; rfl
   have e := segs_run (E := E) (f := (0, 0, 0)) (n := n) hb
   rw [h.1, h.2] at e
   rw [e, List.flatMap_cons]
   show pt ((0, 0, 0), (0, 0, 0)) ++ _ = _
   rw [h0, List.nil_append]
   simp only [Int.toNat_zero, Nat.zero_add]
  ·have hz : runF A B (n + 1) (0, 0, 0) = 0 := runF_no n h
   rw [hz, ad_zero, List.flatMap_cons, h0, List.nil_append, Nat.sub_zero]
theorem kept_skip {A B : Nat -> Int} {i N : Nat} (hi : i < N) (h : both A B i = false) : keptR A B i (N - i) = keptR A B (i + 1) (N - (i + 1)) := by
 obtain ⟨m, hm⟩ : ∃ m, N - i = m + 1 := ⟨N - i - 1, by omega⟩
 rw [hm, keptR_no h, show N - (i + 1) = m by omega]
theorem kept_at {A B : Nat -> Int} {i N : Nat} {E f : T3} (hi : i < N) (h : both A B i = true) :
  segs E f (keptR A B i (N - i)) = (f, (i, (A i).toNat, (B i).toNat)) :: ((i, (A i).toNat, (B i).toNat), ad (i, (A i).toNat, (B i).toNat) (runF A B (N - i) (i, (A i).toNat, (B i).toNat))) :: segs E (ad (i, (A i).toNat, (B i).toNat) (runF A B (N - i) (i, (A i).toNat, (B i).toNat))) (keptR A B (i + runF A B (N - i) (i, (A i).toNat, (B i).toNat)) (N - (i + runF A B (N - i) (i, (A i).toNat, (B i).toNat)))) := by
 obtain ⟨m, hm⟩ : ∃ m, N - i = m + 1 := ⟨N - i - 1, by omega⟩
 rw [hm, segs_run h]
 have e : m + 1 - runF A B (m + 1) (i, (A i).toNat, (B i).toNat) = N - (i + runF A B (m + 1) (i, (A i).toNat, (B i).toNat)) := by omega
 rw [e]
theorem keptR_mem {A B : Nat -> Int} : ∀ (n i : Nat), ∀ p ∈ keptR A B i n, i <= p.1 /\ p.1 < i + n /\ A p.1 = (p.2.1 : Int) /\ B p.1 = (p.2.2 : Int) := by
 intro n
 induction n with
 | zero => intro i p hp; cases hp
 | succ n ih =>
  intro i p hp
  cases hb : both A B i with
  | true =>
   rw [keptR_yes hb] at hp
   have hb := of_decide_eq_true hb
   rcases List.mem_cons.1 hp with rfl | hp
   ·simp only []; omega
   ·have := ih (i + 1) p hp; omega
  | false =>
   rw [keptR_no hb] at hp
   have := ih (i + 1) p hp; omega
theorem keptR_rises {A B : Nat -> Int} : ∀ (n i : Nat), (∀ x y, i <= x -> x < y -> y < i + n -> 0 <= A x -> 0 <= A y -> A x < A y) -> (∀ x y, i <= x -> x < y -> y < i + n -> 0 <= B x -> 0 <= B y -> B x < B y) -> (keptR A B i n).Pairwise lt3 := by
 intro n
 induction n with
 | zero => intro i _ _; exact List.Pairwise.nil
 | succ n ih =>
  intro i hA hB
  have i1 := ih (i + 1) (fun x y h1 h2 h3 => hA x y (by omega) h2 (by omega)) (fun x y h1 h2 h3 => hB x y (by omega) h2 (by omega))
  cases hb : both A B i with
  | true =>
   rw [keptR_yes hb]
   have hb := of_decide_eq_true hb
   refine List.pairwise_cons.2 ⟨fun q hq => ?_, i1⟩
   obtain ⟨q1, q2, q3, q4⟩ := keptR_mem n (i + 1) q hq
   have a := hA i q.1 (Nat.le_refl _) (by omega) (by omega) hb.1 (by omega)
   have b := hB i q.1 (Nat.le_refl _) (by omega) (by omega) hb.2 (by omega)
   unfold lt3
   simp only []
   omega
  | false => rw [keptR_no hb]; exact i1
theorem part_mono {l : List (Nat × Nat)} (h : l.Pairwise fun p q => p.1 < q.1 /\ p.2 < q.2) {x y : Nat} (hxy : x < y) (hx : 0 <= part l x) (hy : 0 <= part l y) : part l x < part l y := by
 rcases part_cases l x with e | ⟨j, e, hm⟩
 ·omega
 ·rcases part_cases l y with e' | ⟨j', e', hm'⟩
  ·omega
  ·obtain ⟨n, hn, en⟩ := List.getElem_of_mem hm
   obtain ⟨m, hm2, em⟩ := List.getElem_of_mem hm'
   have hp := List.pairwise_iff_getElem.1 h
   rcases Nat.lt_trichotomy n m with q | q | q
   ·have := hp n m hn hm2 q; rw [en, em] at this; simp only [] at this; omega
   ·subst q; rw [en] at em; simp only [Prod.mk.injEq] at em; omega
   ·have := hp m n hm2 hn q; rw [en, em] at this; simp only [] at this; omega
end Go.Proofs.YtcfnkndbhpdfnaaGreatDoor
namespace Go.Proofs.YtcfnkndbhpdfnaaGreatDoor
open Go.ChangeShapes Go.WideShapes Go.ChangeAt Go.RowKit
theorem mem_of_lns {l : List Ck} {ss : List ByteArray} (h : ss ∈ lnsAll l) : ∃ c ∈ l, ss = c.2.1 \/ ss = c.2.2.1 \/ ss = c.2.2.2 := by
 unfold lnsAll at h
 obtain ⟨c, hc, hs⟩ := List.mem_flatMap.1 h
 exact ⟨c, hc, by simpa using hs⟩
end Go.Proofs.YtcfnkndbhpdfnaaGreatDoor
namespace Go.Proofs.YtcfnkndbhpdfnaaGreatDoor
open Go.ChangeShapes Go.WideShapes Go.ChangeAt Go.RowKit
def binB (l : List UInt8) : Bool := decide ((0 : UInt8) ∈ l)
theorem mem_snoc (l : List UInt8) (c : UInt8) (h : ¬ (0 : UInt8) ∈ l) (hc : ¬ (c.toNat : Int) = 0) : ¬ (0 : UInt8) ∈ l ++ [c] := by
 have : ¬ c = 0 := by intro h; apply hc; rw [h]; rfl
 simp only [List.mem_append, List.mem_singleton, not_or]
 exact ⟨h, fun e => this e.symm⟩
set_option maxHeartbeats 400000 in
theorem specIsBinary (s : ByteArray) (w : World) (hs : s.size <= maxLen) :
  Calls Tryz.prog 72 #[.string s] w fun e w' => e = .returned (.bool (binB s.data.toList)) /\ w' = w := by
 unfold maxLen at hs
 go_enter Tryz.func72, Tryz.ntmps72
 go_wp2
 go_loop [3] (fun i => ∃ k : Nat, k <= s.size /\ i = .int .i64 k /\ Hid (¬ (0 : UInt8) ∈ s.data.toList.take k)) (fun i => s.size - (intOf i).toNat)
 case atStart => exact ⟨0, Nat.zero_le _, rfl, by simp [Hid]⟩
 case round =>
  obtain ⟨k, hk, rfl, hn⟩ := hrel
  by_cases hlt : k < s.size
  ·by_cases hz : ((s[k].toNat : Int) == 0) = true
   ·have hm : Hid ((0 : UInt8) ∈ s.data.toList) := by
     have : s[k] = 0 := by
      apply UInt8.toNat_inj.1
      have := of_decide_eq_true hz
      simpa using this
     show (0 : UInt8) ∈ s.data.toList
     rw [<- this]
     exact List.getElem_mem _
    go_wp2
    go_ret
    exact ⟨ret_bool (decide_eq_true hm.out).symm, rfl⟩
   ·have hz' : ((s[k].toNat : Int) == 0) = false := by simpa using hz
    have hn' : Hid (¬ (0 : UInt8) ∈ s.data.toList.take (k + 1)) := by
     show ¬ _
     rw [take_snoc s k hlt]
     exact mem_snoc _ _ hn.out (by simpa using hz)
    clear hz hn
    go_wp2
    go_round
    case rel => exact ⟨k + 1, by omega, by go_num, hn'⟩
    case measure => simp [intOf]; omega
  ·have hn2 : Hid (¬ (0 : UInt8) ∈ s.data.toList) := by
    have := hn.out
    rw [List.take_of_length_le (by simp; omega)] at this
    exact this
   go_wp2
   go_ret
   exact ⟨ret_bool (decide_eq_false hn2.out).symm, rfl⟩
theorem implIsBinary (s : ByteArray) (w : World) :
  Calls Tryz.prog 132 #[.string s] w fun e w' => e = .returned (.bool (binB s.data.toList)) /\ w' = w := by
 go_enter Tryz.func132, Tryz.ntmps132
 go_wp2_with (go_at_call 114; refine (indexByte _ _ _).mono ?_; rintro e w' ⟨rfl, rfl⟩)
 go_ret
 exact ⟨ret_bool (by unfold binB; rw [decide_eq_decide]; exact indexByte_mem _ _), rfl⟩
end Go.Proofs.YtcfnkndbhpdfnaaGreatDoor
