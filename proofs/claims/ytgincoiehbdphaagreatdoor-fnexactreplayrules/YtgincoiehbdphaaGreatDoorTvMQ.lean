/- Chunks of three texts whose sides are changed, or of which two are the same; and what a merge takes of them. Plain mathematics. No statement is proved here. -/
import Derived.Test.YtgincoiehbdphaaGreatDoorMxIQ
import Derived.Test.YtgincoiehbdphaaGreatDoorFpSQ
namespace Go.Proofs.YtgincoiehbdphaaGreatDoor
open Go.RowKit
theorem sgK_join (xs : List ByteArray) {i j k : Nat} (h1 : i <= j) (h2 : j <= k) : sgK xs i j ++ sgK xs j k = sgK xs i k := by
 unfold sgK
 have e : k - i = (j - i) + (k - j) := by omega
 rw [e, List.take_add, List.drop_drop, show i + (j - i) = j by omega]
theorem segs_flat (E : T3) (xs : List ByteArray) (g : T3 -> Nat) (hg : ∀ p q, le3 p q -> g p <= g q) : ∀ (n : Nat) (l : List T3) (f : T3), l.length <= n -> le3 f E -> l.Pairwise lt3 -> (∀ p ∈ l, le3 f p /\ le3 (nx p) E) ->
  (segs E f l).flatMap (fun s => sgK xs (g s.1) (g s.2)) = sgK xs (g f) (g E) := by
 intro n
 induction n with
 | zero =>
  intro l f hl _ _ _
  have e : l = [] := List.length_eq_zero_iff.1 (by omega)
  subst e
  rw [segs_nil]; simp
 | succ n ih =>
  intro l f hl hf hp hm
  cases l with
  | nil => rw [segs_nil]; simp
  | cons p r =>
   have hs := segs_ok E (n + 1) (p :: r) f hl hf hp hm
   rw [segs_cons] at hs ⊢
   have a1 := hs (f, p) (List.mem_cons_self ..)
   have a2 := hs (p, ad p (tog p r + 1)) (List.mem_cons_of_mem _ (List.mem_cons_self ..))
   have hi := ih (r.drop (tog p r)) (ad p (tog p r + 1)) (by simp only [List.length_drop, List.length_cons] at hl ⊢; omega) a2.2 (List.Pairwise.sublist (List.drop_sublist _ _) (List.pairwise_cons.1 hp).2)
    (fun q hq => ⟨tog_drop r p hp q hq, (hm q (List.mem_cons_of_mem _ (List.mem_of_mem_drop hq))).2⟩)
   rw [List.flatMap_cons, List.flatMap_cons, hi, sgK_join xs (hg _ _ a2.1) (hg _ _ a2.2), sgK_join xs (hg _ _ a1.1) (hg _ _ a1.2)]
theorem kp_flat (x1 x2 x3 xs : List ByteArray) (g : T3 -> Nat) (hg : ∀ p q, le3 p q -> g p <= g q) : (segs (x1.length, x2.length, x3.length) (0, 0, 0) (kpL x1 x2 x3)).flatMap (fun s => sgK xs (g s.1) (g s.2)) = sgK xs (g (0, 0, 0)) (g (x1.length, x2.length, x3.length)) :=
 segs_flat _ xs g hg _ _ _ (Nat.le_refl _) ⟨Nat.zero_le _, Nat.zero_le _, Nat.zero_le _⟩ (kp_rises x1 x2 x3) (fun p hp => by
  have h := kp_mem hp
  exact ⟨⟨Nat.zero_le _, Nat.zero_le _, Nat.zero_le _⟩, ⟨by show p.1 + 1 <= x1.length; omega, by show p.2.1 + 1 <= x2.length; omega, by show p.2.2 + 1 <= x3.length; omega⟩⟩)
theorem sgK_all (xs : List ByteArray) : sgK xs 0 xs.length = xs := by unfold sgK; simp
theorem putK_sd (i : Nat) (y1 y2 y3 : List ByteArray) : (putK y1 y2 y3).flatMap (sd i) = sd i (0, y1, y2, y3) := by
 cases h : bare (0, y1, y2, y3) with
 | true =>
  rw [putK_yes h]
  have h := of_decide_eq_true h
  simp only [List.length_eq_zero_iff] at h
  obtain ⟨rfl, rfl, rfl⟩ := h
  unfold sd
  split
  ·rfl
  ·split <;> rfl
 | false => rw [putK_no h]; simp [sd]
theorem ckT_side (x1 x2 x3 : List ByteArray) : sideL 0 (ckT x1 x2 x3) = x1 /\ sideL 1 (ckT x1 x2 x3) = x2 /\ sideL 2 (ckT x1 x2 x3) = x3 := by
 have key : ∀ i, sideL i (ckT x1 x2 x3) = (segs (x1.length, x2.length, x3.length) (0, 0, 0) (kpL x1 x2 x3)).flatMap (fun s => sd i (0, sgK x1 s.1.1 s.2.1, sgK x2 s.1.2.1 s.2.2.1, sgK x3 s.1.2.2 s.2.2.2)) := fun i => by
  unfold sideL ckT
  rw [<- List.flatMap_def, List.flatMap_assoc]
  congr 1
  funext s
  exact putK_sd i _ _ _
 refine ⟨?_, ?_, ?_⟩
 ·rw [key 0]
  exact (kp_flat x1 x2 x3 x1 (fun p => p.1) (fun p q h => h.1)).trans (sgK_all x1)
 ·rw [key 1]
  exact (kp_flat x1 x2 x3 x2 (fun p => p.2.1) (fun p q h => h.2.1)).trans (sgK_all x2)
 ·rw [key 2]
  exact (kp_flat x1 x2 x3 x3 (fun p => p.2.2) (fun p q h => h.2.2)).trans (sgK_all x3)
end Go.Proofs.YtgincoiehbdphaaGreatDoor
set_option linter.unusedVariables false
namespace Go.Proofs.YtgincoiehbdphaaGreatDoor.No
open Go.RowKit
def lsB (a b : ByteArray) : Bool := Op.bytesLess a.toList b.toList
theorem bl_irr : ∀ a : List UInt8, Op.bytesLess a a = false
 | [] => rfl
 | x :: a => by
  have := bl_irr a
  simp [Op.bytesLess, this]
theorem bl_trans : ∀ a b c : List UInt8, Op.bytesLess a b = true -> Op.bytesLess b c = true -> Op.bytesLess a c = true
 | _, [], _, h, _ => by simp [Op.bytesLess] at h
 | _, _ :: _, [], _, h => by simp [Op.bytesLess] at h
 | [], _ :: _, _ :: _, _, _ => rfl
 | x :: a, y :: b, z :: c, h, k => by
  simp only [Op.bytesLess, Bool.or_eq_true, Bool.and_eq_true, decide_eq_true_eq, beq_iff_eq] at h k ⊢
  rcases h with h | ⟨rfl, h⟩
  ·rcases k with k | ⟨rfl, k⟩
   ·exact .inl (UInt8.lt_trans h k)
   ·exact .inl h
  ·rcases k with k | ⟨rfl, k⟩
   ·exact .inl k
   ·exact .inr ⟨rfl, bl_trans a b c h k⟩
theorem bl_total : ∀ a b : List UInt8, Op.bytesLess a b = true \/ a = b \/ Op.bytesLess b a = true
 | [], [] => .inr (.inl rfl)
 | [], _ :: _ => .inl rfl
 | _ :: _, [] => .inr (.inr rfl)
 | x :: a, y :: b => by
  simp only [Op.bytesLess, Bool.or_eq_true, Bool.and_eq_true, decide_eq_true_eq, beq_iff_eq]
  by_cases h1 : x < y
  ·exact .inl (.inl h1)
  ·by_cases h2 : y < x
   ·exact .inr (.inr (.inl h2))
   ·have e : x = y := by
     apply UInt8.toNat_inj.1
     have a1 : ¬ x.toNat < y.toNat := h1
     have a2 : ¬ y.toNat < x.toNat := h2
     omega
    subst e
    rcases bl_total a b with h | h | h
    ·exact .inl (.inr ⟨rfl, h⟩)
    ·exact .inr (.inl (by rw [h]))
    ·exact .inr (.inr (.inr ⟨rfl, h⟩))
theorem gt_yes {a b : ByteArray} (h : lsB b a = true) : (Op.bytesLess a.toList b.toList || a.toList == b.toList) = false := by
 have h' : Op.bytesLess b.toList a.toList = true := h
 cases e : Op.bytesLess a.toList b.toList with
 | true => have := bl_trans _ _ _ e h'; rw [bl_irr] at this; cases this
 | false =>
  rw [Bool.false_or]
  cases e2 : (a.toList == b.toList) with
  | false => rfl
  | true => rw [eq_of_beq e2, bl_irr] at h'; cases h'
theorem gt_no {a b : ByteArray} (h : lsB b a = false) : (Op.bytesLess a.toList b.toList || a.toList == b.toList) = true := by
 have h' : Op.bytesLess b.toList a.toList = false := h
 rcases bl_total a.toList b.toList with e | e | e
 ·rw [e, Bool.true_or]
 ·rw [e]; simp
 ·rw [h'] at e; cases e
def szN (n : Nat) : ByteArray := ⟨#[32]⟩ ++ decB n
def nk1 (x : ByteArray) : ByteArray := ⟨#[61]⟩ ++ szN x.size ++ ⟨#[10]⟩ ++ x
def nk3 (x o y : ByteArray) : ByteArray := ⟨#[33]⟩ ++ szN x.size ++ szN o.size ++ szN y.size ++ ⟨#[10]⟩ ++ x ++ o ++ y
def nkT (k : Ck) : ByteArray := if k.1 = 4 then (if lsB (catB k.2.2.2) (catB k.2.2.1) = true then nk3 (catB k.2.2.2) (catB k.2.1) (catB k.2.2.1) else nk3 (catB k.2.2.1) (catB k.2.1) (catB k.2.2.2)) else nk1 (if k.1 = 2 then catB k.2.2.2 else catB k.2.2.1)
theorem nkT_theirs {k : Ck} (h : k.1 = 2) : nkT k = nk1 (catB k.2.2.2) := by unfold nkT; rw [if_neg (by omega), if_pos h]
theorem nkT_ours {k : Ck} (h : ¬ k.1 = 4) (h2 : ¬ k.1 = 2) : nkT k = nk1 (catB k.2.2.1) := by unfold nkT; rw [if_neg h, if_neg h2]
theorem nkT_turned {k : Ck} (h : k.1 = 4) (h2 : lsB (catB k.2.2.2) (catB k.2.2.1) = true) : nkT k = nk3 (catB k.2.2.2) (catB k.2.1) (catB k.2.2.1) := by unfold nkT; rw [if_pos h, if_pos h2]
theorem nkT_clash {k : Ck} (h : k.1 = 4) (h2 : lsB (catB k.2.2.2) (catB k.2.2.1) = false) : nkT k = nk3 (catB k.2.2.1) (catB k.2.1) (catB k.2.2.2) := by unfold nkT; rw [if_pos h, if_neg (by rw [h2]; decide)]
def noT (l : List Ck) : ByteArray := catB (l.map nkT)
def clB (l : List Ck) : Bool := l.any fun c => decide (c.1 = 4)
theorem cc_nonneg (l : List Ck) : 0 <= cc l := by
 unfold cc
 induction l with
 | nil => simp
 | cons c l ih =>
  simp only [List.map_cons, List.sum_cons]
  have : 0 <= cc1 c := by unfold cc1; split <;> omega
  omega
theorem clB_cc (l : List Ck) : clB l = decide (¬ cc l = 0) := by
 induction l with
 | nil => simp [clB, cc]
 | cons c l ih =>
  have e1 : clB (c :: l) = (decide (c.1 = 4) || clB l) := by simp [clB]
  have e2 : cc (c :: l) = cc1 c + cc l := by simp [cc]
  have h0 := cc_nonneg l
  rw [e1, ih, e2]
  unfold cc1
  by_cases h : c.1 = 4
  ·rw [if_pos h, decide_eq_true h, Bool.true_or]
   exact (decide_eq_true (by omega)).symm
  ·rw [if_neg h, decide_eq_false h, Bool.false_or, Int.zero_add]
theorem ckD_at (l : List Ck) (k : Nat) (h : k < l.length) : l.getD k cnil = l[k] := by simp [List.getD, h]
theorem clB_take (l : List Ck) (k : Nat) (h : k < l.length) : clB (l.take (k + 1)) = (clB (l.take k) || decide ((l.getD k cnil).1 = 4)) := by
 unfold clB
 rw [List.take_succ_eq_append_getElem h, List.any_append, ckD_at l k h]
 simp
theorem noT_take (l : List Ck) (k : Nat) (h : k < l.length) : noT (l.take (k + 1)) = noT (l.take k) ++ nkT (l.getD k cnil) := by
 unfold noT
 have e : ∀ n, (l.take n).map nkT = (l.map nkT).take n := fun n => by rw [List.map_take]
 rw [e, e, catB_take _ k (by simpa using h)]
 congr 1
 simp [List.getD, h]
theorem decB_size {n : Nat} (h : n < 10000) : (decB n).size <= 4 := by
 have one : ∀ m, m < 10 -> (decB m).size = 1 := fun m hm => by rw [decB_one hm]; rfl
 have app : ∀ m, (decB m ++ (⟨#[UInt8.ofNat (48 + n % 10)]⟩ : ByteArray)).size = (decB m).size + 1 := fun m => by rw [ByteArray.size_append]; rfl
 have more : ∀ m, ¬ m < 10 -> (decB m).size = (decB (m / 10)).size + 1 := fun m hm => by rw [decB_more hm, ByteArray.size_append]; rfl
 by_cases h1 : n < 10
 ·rw [one n h1]; omega
 rw [more n h1]
 by_cases h2 : n / 10 < 10
 ·rw [one _ h2]; omega
 rw [more _ h2]
 by_cases h3 : n / 10 / 10 < 10
 ·rw [one _ h3]; omega
 rw [more _ h3, one _ (by omega)]
 exact Nat.le_refl _
theorem szN_size {n : Nat} (h : n < 10000) : (szN n).size <= 5 := by
 unfold szN
 rw [ByteArray.size_append]
 have := decB_size h
 have e : (⟨#[32]⟩ : ByteArray).size = 1 := rfl
 omega
def Sml (l : List Ck) : Prop := ∀ c ∈ l, tot c.2.1 <= 2000 /\ tot c.2.2.1 <= 2000 /\ tot c.2.2.2 <= 2000 /\ c.2.1.length <= 1048576 /\ c.2.2.1.length <= 1048576 /\ c.2.2.2.length <= 1048576
theorem cat_bd {ss : List ByteArray} (h : tot ss <= 2000) : (catB ss).size <= 2000 := by have := catB_size ss; omega
theorem nk1_size {x : ByteArray} (h : x.size <= 2000) : (nk1 x).size <= 6100 := by
 unfold nk1
 simp only [ByteArray.size_append]
 have := szN_size (n := x.size) (by omega)
 have e1 : (⟨#[61]⟩ : ByteArray).size = 1 := rfl
 have e2 : (⟨#[10]⟩ : ByteArray).size = 1 := rfl
 omega
theorem nk3_size {x o y : ByteArray} (h : x.size <= 2000) (h1 : o.size <= 2000) (h2 : y.size <= 2000) : (nk3 x o y).size <= 6100 := by
 unfold nk3
 simp only [ByteArray.size_append]
 have := szN_size (n := x.size) (by omega)
 have := szN_size (n := o.size) (by omega)
 have := szN_size (n := y.size) (by omega)
 have e1 : (⟨#[33]⟩ : ByteArray).size = 1 := rfl
 have e2 : (⟨#[10]⟩ : ByteArray).size = 1 := rfl
 omega
theorem nkT_size {l : List Ck} (h : Sml l) {c : Ck} (hc : c ∈ l) : (nkT c).size <= 6100 := by
 obtain ⟨h1, h2, h3, _⟩ := h c hc
 have a1 := cat_bd h1
 have a2 := cat_bd h2
 have a3 := cat_bd h3
 unfold nkT
 split
 ·split
  ·exact nk3_size a3 a1 a2
  ·exact nk3_size a2 a1 a3
 ·split
  ·exact nk1_size a3
  ·exact nk1_size a2
theorem noT_size {l : List Ck} (h : Sml l) : ∀ k, k <= l.length -> (noT (l.take k)).size <= k * 6100 := by
 intro k
 induction k with
 | zero => intro _; exact Nat.le_refl _
 | succ k ih =>
  intro hk
  rw [noT_take l k (by omega), ByteArray.size_append]
  have := ih (by omega)
  have hm : l.getD k cnil ∈ l := by simp [List.getD, show k < l.length by omega]
  have := nkT_size h hm
  omega
theorem tot_app (a b : List ByteArray) : tot (a ++ b) = tot a + tot b := by simp [tot]
theorem tot_flat {l : List (List ByteArray)} {x : List ByteArray} (h : x ∈ l) : tot x <= tot l.flatten /\ x.length <= l.flatten.length := by
 induction l with
 | nil => cases h
 | cons y l ih =>
  rw [List.flatten_cons, tot_app, List.length_append]
  have a1 := tot_nonneg y
  have a2 := tot_nonneg l.flatten
  rcases List.mem_cons.1 h with rfl | h
  ·omega
  ·have := ih h
   omega
theorem side_bd {l : List Ck} {c : Ck} (hc : c ∈ l) (i : Nat) : tot (sd i c) <= tot (sideL i l) /\ (sd i c).length <= (sideL i l).length := by
 unfold sideL
 exact tot_flat (List.mem_map_of_mem hc)
theorem sml_of {a b c : ByteArray} (h : tx3 a b c = 0) : Sml (ckT (linesOf a) (linesOf b) (linesOf c)) := by
 obtain ⟨z1, z2, z3⟩ := tx3_zero h
 have b1 := lf_bd (Rm.lf_lines z1)
 have b2 := lf_bd (Rm.lf_lines z2)
 have b3 := lf_bd (Rm.lf_lines z3)
 obtain ⟨s1, s2, s3⟩ := ckT_side (linesOf a) (linesOf b) (linesOf c)
 intro k hk
 have d0 := side_bd hk 0
 have d1 := side_bd hk 1
 have d2 := side_bd hk 2
 rw [s1, sd0] at d0
 rw [s2, sd1] at d1
 rw [s3, sd2] at d2
 refine ⟨?_, ?_, ?_, ?_, ?_, ?_⟩ <;> omega
def noC (a b c : ByteArray) : Int := if tx3 a b c = 0 then (if cc (ckT (linesOf a) (linesOf b) (linesOf c)) = 0 then 4 else 0) else tx3 a b c
def noX (a b c : ByteArray) : ByteArray := if tx3 a b c = 0 /\ ¬ cc (ckT (linesOf a) (linesOf b) (linesOf c)) = 0 then noT (ckT (linesOf a) (linesOf b) (linesOf c)) else ⟨#[]⟩
theorem no_fault {a b c : ByteArray} (h : ¬ tx3 a b c = 0) : noC a b c = tx3 a b c /\ noX a b c = ⟨#[]⟩ := ⟨if_neg h, if_neg (fun k => h k.1)⟩
theorem no_none {a b c : ByteArray} (h : tx3 a b c = 0) (k : cc (ckT (linesOf a) (linesOf b) (linesOf c)) = 0) : noC a b c = 4 /\ noX a b c = ⟨#[]⟩ := ⟨by unfold noC; rw [if_pos h, if_pos k], if_neg (fun q => q.2 k)⟩
theorem no_some {a b c : ByteArray} (h : tx3 a b c = 0) (k : ¬ cc (ckT (linesOf a) (linesOf b) (linesOf c)) = 0) : noC a b c = 0 /\ noX a b c = noT (ckT (linesOf a) (linesOf b) (linesOf c)) := ⟨by unfold noC; rw [if_pos h, if_neg k], if_pos ⟨h, k⟩⟩
theorem ret_ct {a b : Int} {s t : ByteArray} (h : a = b) (k : s = t) : Ending.returned (.agg #[.int .i64 a, .string s]) = .returned (.agg #[.int .i64 b, .string t]) := by rw [h, k]
end Go.Proofs.YtgincoiehbdphaaGreatDoor.No
