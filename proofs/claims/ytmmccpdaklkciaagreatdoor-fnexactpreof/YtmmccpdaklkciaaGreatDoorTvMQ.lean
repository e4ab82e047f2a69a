/- Chunks of three texts whose sides are changed, or of which two are the same; and what a merge takes of them. Plain mathematics. No statement is proved here. -/
import Derived.Test.YtmmccpdaklkciaaGreatDoorRows
import Derived.Test.YtmmccpdaklkciaaGreatDoorLemQ
import Derived.Test.YtmmccpdaklkciaaGreatDoorLFLemQ
import Derived.Test.YtmmccpdaklkciaaGreatDoorIterQ
import Derived.Test.YtmmccpdaklkciaaGreatDoorComQ
import Derived.Test.YtmmccpdaklkciaaGreatDoorCkLQ
import Derived.Test.YtmmccpdaklkciaaGreatDoorCkBQ
import Derived.Test.YtmmccpdaklkciaaGreatDoorRtMQ
import Derived.Test.YtmmccpdaklkciaaGreatDoorCtTQ
import Derived.Test.YtmmccpdaklkciaaGreatDoorKpMQ
import Derived.Test.YtmmccpdaklkciaaGreatDoorKpDQ
import Derived.Test.YtmmccpdaklkciaaGreatDoorKpJQ
import Derived.Test.YtmmccpdaklkciaaGreatDoorMxIQ
import Derived.Test.YtmmccpdaklkciaaGreatDoorFpSQ
namespace Go.Proofs.YtmmccpdaklkciaaGreatDoor
open Go.RowKit

/-- The two sides changed. -/
def sw3 (p : T3) : T3 := (p.1, p.2.2, p.2.1)
def swS (s : T3 × T3) : T3 × T3 := (sw3 s.1, sw3 s.2)
def swD (c : Ck) : Ck := (kd c.2.1 c.2.2.2 c.2.2.1, c.2.1, c.2.2.2, c.2.2.1)
theorem both_comm (A B : Nat → Int) (i : Nat) : both B A i = both A B i := by
  unfold both; rw [decide_eq_decide]; exact and_comm
theorem keptR_sw (A B : Nat → Int) : ∀ (n i : Nat), keptR B A i n = (keptR A B i n).map sw3 := by
  intro n
  induction n with
  | zero => intro i; rfl
  | succ n ih =>
    intro i
    cases h : both A B i with
    | true => rw [keptR_yes h, keptR_yes ((both_comm A B i).trans h), List.map_cons, ih]; rfl
    | false => rw [keptR_no h, keptR_no ((both_comm A B i).trans h), ih]
theorem kp_sw (x1 x2 x3 : List ByteArray) : kpL x1 x3 x2 = (kpL x1 x2 x3).map sw3 := keptR_sw _ _ _ _
theorem sw3_inj {p q : T3} : sw3 p = sw3 q ↔ p = q := by
  constructor
  · intro h
    obtain ⟨a, b, c⟩ := p
    obtain ⟨d, e, f⟩ := q
    simp only [sw3, Prod.mk.injEq] at h ⊢
    exact ⟨h.1, h.2.2, h.2.1⟩
  · intro h; rw [h]
theorem tog_sw : ∀ (r : List T3) (p : T3), tog (sw3 p) (r.map sw3) = tog p r := by
  intro r
  induction r with
  | nil => intro p; rfl
  | cons q r ih =>
    intro p
    rw [List.map_cons, tog, tog]
    have e : nx (sw3 p) = sw3 (nx p) := rfl
    rw [e]
    by_cases h : q = nx p
    · rw [if_pos h, if_pos (by rw [h]), ih]
    · rw [if_neg h, if_neg (fun k => h (sw3_inj.1 k))]
theorem segs_sw (E : T3) : ∀ (n : Nat) (l : List T3) (f : T3), l.length ≤ n → segs (sw3 E) (sw3 f) (l.map sw3) = (segs E f l).map swS := by
  intro n
  induction n with
  | zero =>
    intro l f h
    have e : l = [] := List.length_eq_zero_iff.1 (by omega)
    subst e
    rw [List.map_nil, segs_nil, segs_nil]; rfl
  | succ n ih =>
    intro l f h
    cases l with
    | nil => rw [List.map_nil, segs_nil, segs_nil]; rfl
    | cons p r =>
      rw [List.map_cons, segs_cons, segs_cons, tog_sw, List.map_cons, List.map_cons]
      have e : ad (sw3 p) (tog p r + 1) = sw3 (ad p (tog p r + 1)) := rfl
      rw [e, ← List.map_drop, ih _ _ (by simp only [List.length_drop, List.length_cons] at h ⊢; omega)]
      rfl
theorem bare_sw (k m : Int) (x1 x2 x3 : List ByteArray) : bare (k, x1, x3, x2) = bare (m, x1, x2, x3) := by
  unfold bare; rw [decide_eq_decide]; exact ⟨fun h => ⟨h.1, h.2.2, h.2.1⟩, fun h => ⟨h.1, h.2.2, h.2.1⟩⟩
theorem ptK_sw (x1 x2 x3 : List ByteArray) (s : T3 × T3) : ptK x1 x3 x2 (swS s) = (ptK x1 x2 x3 s).map swD := by
  unfold ptK
  show putK (sgK x1 s.1.1 s.2.1) (sgK x3 s.1.2.2 s.2.2.2) (sgK x2 s.1.2.1 s.2.2.1) = _
  unfold putK
  rw [bare_sw 0 0]
  split
  · rfl
  · rfl
theorem ckT_sw (x1 x2 x3 : List ByteArray) : ckT x1 x3 x2 = (ckT x1 x2 x3).map swD := by
  unfold ckT
  rw [kp_sw, show ((x1.length, x3.length, x2.length) : T3) = sw3 (x1.length, x2.length, x3.length) from rfl, show ((0, 0, 0) : T3) = sw3 (0, 0, 0) from rfl, segs_sw _ _ _ _ (Nat.le_refl _), List.flatMap_map, List.map_flatMap]
  congr 1
  funext s
  exact ptK_sw x1 x2 x3 s
/-- The pieces of one text, one behind another. -/
theorem sgK_join (xs : List ByteArray) {i j k : Nat} (h1 : i ≤ j) (h2 : j ≤ k) : sgK xs i j ++ sgK xs j k = sgK xs i k := by
  unfold sgK
  have e : k - i = (j - i) + (k - j) := by omega
  rw [e, List.take_add, List.drop_drop, show i + (j - i) = j by omega]
theorem segs_flat (E : T3) (xs : List ByteArray) (g : T3 → Nat) (hg : ∀ p q, le3 p q → g p ≤ g q) : ∀ (n : Nat) (l : List T3) (f : T3), l.length ≤ n → le3 f E → l.Pairwise lt3 → (∀ p ∈ l, le3 f p ∧ le3 (nx p) E) →
    (segs E f l).flatMap (fun s => sgK xs (g s.1) (g s.2)) = sgK xs (g f) (g E) := by
  intro n
  induction n with
  | zero =>
    intro l f hl _ _ _
    have e : l = [] := List.length_eq_zero_iff.1 (by omega)
    subst e
    rw [segs_nil]; simp
  | succ n ih =>
    intro l f hl hf hp hm
    cases l with
    | nil => rw [segs_nil]; simp
    | cons p r =>
      have hs := segs_ok E (n + 1) (p :: r) f hl hf hp hm
      rw [segs_cons] at hs ⊢
      have a1 := hs (f, p) (List.mem_cons_self ..)
      have a2 := hs (p, ad p (tog p r + 1)) (List.mem_cons_of_mem _ (List.mem_cons_self ..))
      have hi := ih (r.drop (tog p r)) (ad p (tog p r + 1)) (by simp only [List.length_drop, List.length_cons] at hl ⊢; omega) a2.2 (List.Pairwise.sublist (List.drop_sublist _ _) (List.pairwise_cons.1 hp).2)
        (fun q hq => ⟨tog_drop r p hp q hq, (hm q (List.mem_cons_of_mem _ (List.mem_of_mem_drop hq))).2⟩)
      rw [List.flatMap_cons, List.flatMap_cons, hi, sgK_join xs (hg _ _ a2.1) (hg _ _ a2.2), sgK_join xs (hg _ _ a1.1) (hg _ _ a1.2)]
theorem kp_flat (x1 x2 x3 xs : List ByteArray) (g : T3 → Nat) (hg : ∀ p q, le3 p q → g p ≤ g q) : (segs (x1.length, x2.length, x3.length) (0, 0, 0) (kpL x1 x2 x3)).flatMap (fun s => sgK xs (g s.1) (g s.2)) = sgK xs (g (0, 0, 0)) (g (x1.length, x2.length, x3.length)) :=
  segs_flat _ xs g hg _ _ _ (Nat.le_refl _) ⟨Nat.zero_le _, Nat.zero_le _, Nat.zero_le _⟩ (kp_rises x1 x2 x3) (fun p hp => by
    have h := kp_mem hp
    exact ⟨⟨Nat.zero_le _, Nat.zero_le _, Nat.zero_le _⟩, ⟨by show p.1 + 1 ≤ x1.length; omega, by show p.2.1 + 1 ≤ x2.length; omega, by show p.2.2 + 1 ≤ x3.length; omega⟩⟩)
theorem sgK_all (xs : List ByteArray) : sgK xs 0 xs.length = xs := by unfold sgK; simp
theorem putK_sd (i : Nat) (y1 y2 y3 : List ByteArray) : (putK y1 y2 y3).flatMap (sd i) = sd i (0, y1, y2, y3) := by
  cases h : bare (0, y1, y2, y3) with
  | true =>
    rw [putK_yes h]
    have h := of_decide_eq_true h
    simp only [List.length_eq_zero_iff] at h
    obtain ⟨rfl, rfl, rfl⟩ := h
    unfold sd
    split
    · rfl
    · split <;> rfl
  | false => rw [putK_no h]; simp [sd]
/-- Chunks have all lines of all three texts. -/
theorem ckT_side (x1 x2 x3 : List ByteArray) : sideL 0 (ckT x1 x2 x3) = x1 ∧ sideL 1 (ckT x1 x2 x3) = x2 ∧ sideL 2 (ckT x1 x2 x3) = x3 := by
  have key : ∀ i, sideL i (ckT x1 x2 x3) = (segs (x1.length, x2.length, x3.length) (0, 0, 0) (kpL x1 x2 x3)).flatMap (fun s => sd i (0, sgK x1 s.1.1 s.2.1, sgK x2 s.1.2.1 s.2.2.1, sgK x3 s.1.2.2 s.2.2.2)) := fun i => by
    unfold sideL ckT
    rw [← List.flatMap_def, List.flatMap_assoc]
    congr 1
    funext s
    exact putK_sd i _ _ _
  refine ⟨?_, ?_, ?_⟩
  · rw [key 0]
    exact (kp_flat x1 x2 x3 x1 (fun p => p.1) (fun p q h => h.1)).trans (sgK_all x1)
  · rw [key 1]
    exact (kp_flat x1 x2 x3 x2 (fun p => p.2.1) (fun p q h => h.2.1)).trans (sgK_all x2)
  · rw [key 2]
    exact (kp_flat x1 x2 x3 x3 (fun p => p.2.2) (fun p q h => h.2.2)).trans (sgK_all x3)
/-- Pieces keep what their places keep. -/
theorem segs_keep (P : T3 → Prop) (hP : ∀ p n, P p → P (ad p n)) (E : T3) (hE : P E) : ∀ (n : Nat) (l : List T3) (f : T3), l.length ≤ n → P f → (∀ p ∈ l, P p) → ∀ s ∈ segs E f l, P s.1 ∧ P s.2 := by
  intro n
  induction n with
  | zero =>
    intro l f hl hf _ s hs
    have e : l = [] := List.length_eq_zero_iff.1 (by omega)
    subst e
    rw [segs_nil] at hs
    obtain rfl := List.mem_singleton.1 hs
    exact ⟨hf, hE⟩
  | succ n ih =>
    intro l f hl hf hm s hs
    cases l with
    | nil =>
      rw [segs_nil] at hs
      obtain rfl := List.mem_singleton.1 hs
      exact ⟨hf, hE⟩
    | cons p r =>
      have hp := hm p (List.mem_cons_self ..)
      rw [segs_cons] at hs
      rcases List.mem_cons.1 hs with rfl | hs
      · exact ⟨hf, hp⟩
      · rcases List.mem_cons.1 hs with rfl | hs
        · exact ⟨hp, hP _ _ hp⟩
        · exact ih _ _ (by simp only [List.length_drop, List.length_cons] at hl ⊢; omega) (hP _ _ hp) (fun q hq => hm q (List.mem_cons_of_mem _ (List.mem_of_mem_drop hq))) s hs
theorem mat_diag (x : List ByteArray) : ∀ (n i : Nat), x.length - i ≤ n → ∀ p ∈ mat x x i i, p.1 = p.2 := by
  intro n
  induction n with
  | zero => intro i h p hp; rw [mat_end x x i i (by omega)] at hp; cases hp
  | succ n ih =>
    intro i h p hp
    by_cases hi : i < x.length
    · rw [mat_eq x x i i hi hi rfl] at hp
      rcases List.mem_cons.1 hp with rfl | hp
      · rfl
      · exact ih (i + 1) (by omega) p hp
    · rw [mat_end x x i i (by omega)] at hp; cases hp
theorem kp_third {x1 x2 : List ByteArray} {p : T3} (h : p ∈ kpL x1 x2 x1) : p.2.2 = p.1 := by
  obtain ⟨_, h1, h2, h3⟩ := keptR_mem _ _ p h
  rcases part_cases (mat x1 x1 0 0) p.1 with e | ⟨j, e, hm⟩
  · omega
  · have := mat_diag x1 _ 0 (Nat.le_refl _) _ hm
    simp only [] at this
    omega
theorem kp_same {x1 x2 : List ByteArray} {p : T3} (h : p ∈ kpL x1 x2 x2) : p.2.2 = p.2.1 := by
  obtain ⟨_, h1, h2, h3⟩ := keptR_mem _ _ p h
  omega
/-- Where theirs is the base, it is so in each chunk; and where both sides are the same. -/
theorem ckT_third {x1 x2 : List ByteArray} {c : Ck} (h : c ∈ ckT x1 x2 x1) : c.2.2.2 = c.2.1 ∧ c.1 = kd c.2.1 c.2.2.1 c.2.2.2 := by
  unfold ckT at h
  obtain ⟨s, hs, hc⟩ := List.mem_flatMap.1 h
  have k := segs_keep (fun p => p.2.2 = p.1) (fun p n (e : p.2.2 = p.1) => by show p.2.2 + n = p.1 + n; omega) (x1.length, x2.length, x1.length) rfl _ _ (0, 0, 0) (Nat.le_refl _) rfl (fun p hp => kp_third hp) s hs
  unfold ptK putK at hc
  rw [k.1, k.2] at hc
  split at hc
  · cases hc
  · rw [List.mem_singleton] at hc
    subst hc
    exact ⟨rfl, rfl⟩
theorem ckT_same {x1 x2 : List ByteArray} {c : Ck} (h : c ∈ ckT x1 x2 x2) : c.2.2.2 = c.2.2.1 ∧ c.1 = kd c.2.1 c.2.2.1 c.2.2.2 := by
  unfold ckT at h
  obtain ⟨s, hs, hc⟩ := List.mem_flatMap.1 h
  have k := segs_keep (fun p => p.2.2 = p.2.1) (fun p n (e : p.2.2 = p.2.1) => by show p.2.2 + n = p.2.1 + n; omega) (x1.length, x2.length, x2.length) rfl _ _ (0, 0, 0) (Nat.le_refl _) rfl (fun p hp => kp_same hp) s hs
  unfold ptK putK at hc
  rw [k.1, k.2] at hc
  split at hc
  · cases hc
  · rw [List.mem_singleton] at hc
    subst hc
    exact ⟨rfl, rfl⟩
theorem kd_third (b o : List ByteArray) : ¬ kd b o b = 4 ∧ ¬ kd b o b = 2 := by
  unfold kd
  rw [eqB_self]
  split <;> simp
theorem kd_twice (b o : List ByteArray) : ¬ kd b o o = 4 ∧ ¬ kd b o o = 2 := by
  unfold kd
  rw [eqB_self]
  by_cases h : eqB b o = true
  · simp [h]
  · simp [h]
theorem pts_side : ∀ (l : List Ck), (∀ c ∈ l, ¬ c.1 = 4 ∧ ¬ c.1 = 2) → ptsA l = sideL 1 l ∧ cc l = 0 := by
  intro l
  induction l with
  | nil => intro _; exact ⟨rfl, rfl⟩
  | cons c l ih =>
    intro h
    obtain ⟨h1, h2⟩ := h c (List.mem_cons_self ..)
    obtain ⟨i1, i2⟩ := ih (fun d hd => h d (List.mem_cons_of_mem _ hd))
    constructor
    · show pts c ++ ptsA l = sd 1 c ++ sideL 1 l
      rw [i1]
      unfold pts
      rw [if_neg h1, if_neg h2]; rfl
    · show cc1 c + cc l = 0
      rw [i2]
      unfold cc1
      rw [if_neg (by exact h1)]; rfl
/-- What a merge takes where one side alone has changed, or both are the same. -/
theorem pts_third (x1 x2 : List ByteArray) : ptsA (ckT x1 x2 x1) = x2 ∧ cc (ckT x1 x2 x1) = 0 := by
  obtain ⟨h1, h2⟩ := pts_side (ckT x1 x2 x1) (fun c hc => by
    obtain ⟨e1, e2⟩ := ckT_third hc
    rw [e2, e1]
    exact kd_third _ _)
  exact ⟨h1.trans (ckT_side x1 x2 x1).2.1, h2⟩
theorem pts_twice (x1 x2 : List ByteArray) : ptsA (ckT x1 x2 x2) = x2 ∧ cc (ckT x1 x2 x2) = 0 := by
  obtain ⟨h1, h2⟩ := pts_side (ckT x1 x2 x2) (fun c hc => by
    obtain ⟨e1, e2⟩ := ckT_same hc
    rw [e2, e1]
    exact kd_twice _ _)
  exact ⟨h1.trans (ckT_side x1 x2 x2).2.1, h2⟩
/-- Right lines are joined as they are. -/
theorem ok_ends {l : List UInt8} (h : okLine l false = true) : endsL l = true := by
  rcases Rm.ok_inv h with ⟨a, _, rfl⟩ | ⟨_, _, h⟩
  · unfold endsL; simp
  · cases h
theorem jn_right : ∀ (ss : List ByteArray), Rm.Right (Rm.dat ss) → jnF ss = Rm.catL ss
  | [], _ => rfl
  | [s], _ => by simp [jnF, Rm.catL]
  | s :: t :: r, h => by
    have ih := jn_right (t :: r) h.2
    have e : endL s = s.data.toList := by unfold endL; rw [if_pos (ok_ends h.1)]
    rw [jnF, ih, e]
    simp [Rm.catL]
theorem jn_lines (s : ByteArray) : (⟨(jnF (linesOf s)).toArray⟩ : ByteArray) = s := by
  have h : Rm.Right (Rm.dat (linesOf s)) := by
    rw [Rm.dat_lines]
    exact Rm.right_spl _ _ (Nat.le_refl _)
  rw [jn_right _ h]
  exact Rm.join_lines s
/-- How many lines a text has. -/
theorem spl_count (l : List UInt8) : (spl l).length = l.count 10 + (if l = [] ∨ endsL l = true then 0 else 1) := by
  induction l with
  | nil => rfl
  | cons c l ih =>
    rw [spl]
    by_cases hl : l = []
    · subst hl
      by_cases hc : c = 10
      · subst hc; simp [spl, endsL]
      · rw [if_neg hc]
        simp [spl, endsL, hc]
    · have he : endsL (c :: l) = endsL l := endsL_app [c] l hl
      have e2 : (c :: l = [] ∨ endsL (c :: l) = true) = (l = [] ∨ endsL l = true) := by
        rw [he]
        simp [hl]
      by_cases hc : c = 10
      · rw [if_pos hc, List.length_cons, ih]
        simp only [e2]
        rw [hc, List.count_cons_self]
        omega
      · rw [if_neg hc]
        have hne : spl l ≠ [] := fun e => by
          have := Rm.spl_flatten l
          rw [e] at this
          exact hl this.symm
        cases hs : spl l with
        | nil => exact absurd hs hne
        | cons x xs =>
          rw [hs] at ih
          simp only [List.length_cons] at ih ⊢
          simp only [e2]
          rw [ih, List.count_cons_of_ne (fun q => hc q)]
/-- Two parts that have the same bytes, in whatever order, and end alike. -/
def Alike (s t : ByteArray) : Prop := s.data.toList.Perm t.data.toList ∧ endsL s.data.toList = endsL t.data.toList
theorem Alike.refl (s : ByteArray) : Alike s s := ⟨List.Perm.refl _, rfl⟩
theorem Alike.endL {s t : ByteArray} (h : Alike s t) : (endL s).Perm (endL t) := by
  unfold Proofs.YtmmccpdaklkciaaGreatDoor.endL
  rw [h.2]
  split
  · exact h.1
  · exact h.1.append_right _
theorem endsL_end (s : ByteArray) : endsL (endL s) = true := by
  unfold endL
  split
  · assumption
  · unfold endsL; simp
def Alikes : List ByteArray → List ByteArray → Prop
  | [], [] => True
  | s :: ss, t :: ts => Alike s t ∧ Alikes ss ts
  | _, _ => False
theorem Alikes.refl : ∀ (ss : List ByteArray), Alikes ss ss
  | [] => trivial
  | s :: ss => ⟨Alike.refl s, Alikes.refl ss⟩
theorem Alikes.app : ∀ {a b c d : List ByteArray}, Alikes a b → Alikes c d → Alikes (a ++ c) (b ++ d)
  | [], [], _, _, _, h => h
  | _ :: _, _ :: _, _, _, h, k => ⟨h.1, Alikes.app h.2 k⟩
  | [], _ :: _, _, _, h, _ => absurd h (by exact fun x => x)
  | _ :: _, [], _, _, h, _ => absurd h (by exact fun x => x)
theorem jn_alike : ∀ (ss ts : List ByteArray), (∀ s ∈ ss, s.data.toList ≠ []) → Alikes ss ts → (jnF ss).Perm (jnF ts) ∧ endsL (jnF ss) = endsL (jnF ts)
  | [], [], _, _ => ⟨List.Perm.refl _, rfl⟩
  | [s], [t], _, h => ⟨h.1.1, h.1.2⟩
  | s :: s' :: ss, t :: t' :: ts, hn, h => by
    obtain ⟨i1, i2⟩ := jn_alike (s' :: ss) (t' :: ts) (fun x hx => hn x (List.mem_cons_of_mem _ hx)) h.2
    have n1 : jnF (s' :: ss) ≠ [] := by
      have h0 := hn s' (List.mem_cons_of_mem _ (List.mem_cons_self ..))
      cases ss with
      | nil => exact h0
      | cons x xs =>
        rw [jnF]
        intro e
        have e1 := (List.append_eq_nil_iff.1 e).1
        unfold endL at e1
        split at e1
        · exact h0 e1
        · simp at e1
    have n2 : jnF (t' :: ts) ≠ [] := fun e => n1 (List.length_eq_zero_iff.1 (by rw [i1.length_eq, e]; rfl))
    rw [jnF, jnF]
    exact ⟨List.Perm.append h.1.endL i1, by rw [endsL_app _ _ n1, endsL_app _ _ n2, i2]⟩
  | [], _ :: _, _, h => absurd h (by exact fun x => x)
  | _ :: _, [], _, h => absurd h (by exact fun x => x)
  | [_], _ :: _ :: _, _, h => absurd h.2 (by exact fun x => x)
  | _ :: _ :: _, [_], _, h => absurd h.2 (by exact fun x => x)
/-- The text of a clash with its sides changed. -/
theorem clash_alike (b o t : List ByteArray) : Alike (clashB b o t) (clashB b t o) := by
  have e : ∀ x y, (clashB b x y).data.toList = clashL b x y := fun x y => by simp [clashB]
  refine ⟨?_, ?_⟩
  · rw [e, e]
    rw [List.perm_iff_count]
    intro a
    unfold clashL
    simp only [List.count_append]
    omega
  · rw [e, e]
    have k : ∀ x y, endsL (clashL b x y) = true := fun x y => by
      unfold clashL
      rw [endsL_app _ _ (by decide)]
      decide
    rw [k, k]
theorem eqB_iff {xs ys : List ByteArray} : eqB xs ys = true ↔ xs = ys := ⟨fun h => of_decide_eq_true h, fun h => decide_eq_true h⟩
/-- A chunk with its sides changed: it clashes just so, and what is taken of it is alike; the same, where it does not clash. -/
theorem kd_four (b o t : List ByteArray) : kd b t o = 4 ↔ kd b o t = 4 := by
  have key : ∀ o t, kd b o t = 4 ↔ (¬ b = o ∧ ¬ b = t ∧ ¬ o = t) := fun o t => by
    unfold kd
    simp only [eqB_iff]
    by_cases h1 : b = o
    · rw [if_pos h1]; split <;> simp [h1]
    · rw [if_neg h1]
      by_cases h2 : b = t
      · rw [if_pos h2]; simp [h2]
      · rw [if_neg h2]
        by_cases h3 : o = t
        · rw [if_pos h3]; simp [h3]
        · rw [if_neg h3]; simp [h1, h2, h3]
  rw [key, key]
  exact ⟨fun h => ⟨h.2.1, h.1, fun e => h.2.2 e.symm⟩, fun h => ⟨h.2.1, h.1, fun e => h.2.2 e.symm⟩⟩
theorem pts_sw {c : Ck} (hk : c.1 = kd c.2.1 c.2.2.1 c.2.2.2) (h : ¬ c.1 = 4) : pts (swD c) = pts c := by
  obtain ⟨k, b, o, t⟩ := c
  simp only [] at hk
  subst hk
  have h4 : ¬ kd b t o = 4 := fun e => h ((kd_four b o t).1 e)
  unfold pts swD
  simp only []
  simp only [] at h
  rw [if_neg h, if_neg h4]
  unfold kd
  simp only [eqB_iff]
  unfold kd at h
  simp only [eqB_iff] at h
  by_cases h1 : b = o
  · subst h1
    by_cases h2 : b = t
    · subst h2; simp
    · simp [h2]
  · by_cases h2 : b = t
    · subst h2; simp [h1]
    · by_cases h3 : o = t
      · subst h3; simp [h1]
      · simp [h1, h2, h3] at h
theorem ptsA_sw : ∀ (l : List Ck), (∀ c ∈ l, c.1 = kd c.2.1 c.2.2.1 c.2.2.2) → Alikes (ptsA l) (ptsA (l.map swD)) ∧ cc (l.map swD) = cc l ∧ (cc l = 0 → ptsA (l.map swD) = ptsA l) := by
  intro l
  induction l with
  | nil => intro _; exact ⟨trivial, rfl, fun _ => rfl⟩
  | cons c l ih =>
    intro h
    have hc := h c (List.mem_cons_self ..)
    obtain ⟨i1, i2, i3⟩ := ih (fun d hd => h d (List.mem_cons_of_mem _ hd))
    have e1 : ptsA (c :: l) = pts c ++ ptsA l := rfl
    have e2 : ptsA ((c :: l).map swD) = pts (swD c) ++ ptsA (l.map swD) := rfl
    have e3 : cc (c :: l) = cc1 c + cc l := rfl
    have e4 : cc ((c :: l).map swD) = cc1 (swD c) + cc (l.map swD) := rfl
    rw [e1, e2, e3, e4, i2]
    have nn := (cc_bd l).1
    by_cases h4 : c.1 = 4
    · have k4 : (swD c).1 = 4 := by
        show kd c.2.1 c.2.2.2 c.2.2.1 = 4
        rw [kd_four, ← hc]; exact h4
      have q1 : cc1 c = 1 := by unfold cc1; rw [if_pos h4]
      have q2 : cc1 (swD c) = 1 := by unfold cc1; rw [if_pos k4]
      refine ⟨Alikes.app ?_ i1, by rw [q1, q2], fun e => absurd e (by rw [q1]; omega)⟩
      unfold pts
      rw [if_pos h4, if_pos k4]
      exact ⟨clash_alike _ _ _, trivial⟩
    · have k4 : ¬ (swD c).1 = 4 := fun e => h4 (by
        have e : kd c.2.1 c.2.2.2 c.2.2.1 = 4 := e
        rw [kd_four] at e
        rw [hc]; exact e)
      have q1 : cc1 c = 0 := by unfold cc1; rw [if_neg h4]
      have q2 : cc1 (swD c) = 0 := by unfold cc1; rw [if_neg k4]
      rw [pts_sw hc h4]
      exact ⟨Alikes.app (Alikes.refl _) i1, by rw [q1, q2], fun e => by rw [i3 (by omega)]⟩
end Go.Proofs.YtmmccpdaklkciaaGreatDoor
/- The text of chunks that does not hang on whose side is which. Plain mathematics. No statement is proved here. -/
set_option linter.unusedVariables false
namespace Go.Proofs.YtmmccpdaklkciaaGreatDoor.No
open Go.RowKit
def lsB (a b : ByteArray) : Bool := Op.bytesLess a.toList b.toList
theorem bl_irr : ∀ a : List UInt8, Op.bytesLess a a = false
  | [] => rfl
  | x :: a => by
    have := bl_irr a
    simp [Op.bytesLess, this]
theorem bl_trans : ∀ a b c : List UInt8, Op.bytesLess a b = true → Op.bytesLess b c = true → Op.bytesLess a c = true
  | _, [], _, h, _ => by simp [Op.bytesLess] at h
  | _, _ :: _, [], _, h => by simp [Op.bytesLess] at h
  | [], _ :: _, _ :: _, _, _ => rfl
  | x :: a, y :: b, z :: c, h, k => by
    simp only [Op.bytesLess, Bool.or_eq_true, Bool.and_eq_true, decide_eq_true_eq, beq_iff_eq] at h k ⊢
    rcases h with h | ⟨rfl, h⟩
    · rcases k with k | ⟨rfl, k⟩
      · exact .inl (UInt8.lt_trans h k)
      · exact .inl h
    · rcases k with k | ⟨rfl, k⟩
      · exact .inl k
      · exact .inr ⟨rfl, bl_trans a b c h k⟩
theorem bl_total : ∀ a b : List UInt8, Op.bytesLess a b = true ∨ a = b ∨ Op.bytesLess b a = true
  | [], [] => .inr (.inl rfl)
  | [], _ :: _ => .inl rfl
  | _ :: _, [] => .inr (.inr rfl)
  | x :: a, y :: b => by
    simp only [Op.bytesLess, Bool.or_eq_true, Bool.and_eq_true, decide_eq_true_eq, beq_iff_eq]
    by_cases h1 : x < y
    · exact .inl (.inl h1)
    · by_cases h2 : y < x
      · exact .inr (.inr (.inl h2))
      · have e : x = y := by
          apply UInt8.toNat_inj.1
          have a1 : ¬ x.toNat < y.toNat := h1
          have a2 : ¬ y.toNat < x.toNat := h2
          omega
        subst e
        rcases bl_total a b with h | h | h
        · exact .inl (.inr ⟨rfl, h⟩)
        · exact .inr (.inl (by rw [h]))
        · exact .inr (.inr (.inr ⟨rfl, h⟩))
theorem gt_yes {a b : ByteArray} (h : lsB b a = true) : (Op.bytesLess a.toList b.toList || a.toList == b.toList) = false := by
  have h' : Op.bytesLess b.toList a.toList = true := h
  cases e : Op.bytesLess a.toList b.toList with
  | true => have := bl_trans _ _ _ e h'; rw [bl_irr] at this; cases this
  | false =>
    rw [Bool.false_or]
    cases e2 : (a.toList == b.toList) with
    | false => rfl
    | true => rw [eq_of_beq e2, bl_irr] at h'; cases h'
theorem gt_no {a b : ByteArray} (h : lsB b a = false) : (Op.bytesLess a.toList b.toList || a.toList == b.toList) = true := by
  have h' : Op.bytesLess b.toList a.toList = false := h
  rcases bl_total a.toList b.toList with e | e | e
  · rw [e, Bool.true_or]
  · rw [e]; simp
  · rw [h'] at e; cases e
def szN (n : Nat) : ByteArray := ⟨#[32]⟩ ++ decB n
/-- What is told of a chunk that does not clash, and of one that does. -/
def nk1 (x : ByteArray) : ByteArray := ⟨#[61]⟩ ++ szN x.size ++ ⟨#[10]⟩ ++ x
def nk3 (x o y : ByteArray) : ByteArray := ⟨#[33]⟩ ++ szN x.size ++ szN o.size ++ szN y.size ++ ⟨#[10]⟩ ++ x ++ o ++ y
def nkT (k : Ck) : ByteArray := if k.1 = 4 then (if lsB (catB k.2.2.2) (catB k.2.2.1) = true then nk3 (catB k.2.2.2) (catB k.2.1) (catB k.2.2.1) else nk3 (catB k.2.2.1) (catB k.2.1) (catB k.2.2.2)) else nk1 (if k.1 = 2 then catB k.2.2.2 else catB k.2.2.1)
theorem nkT_theirs {k : Ck} (h : k.1 = 2) : nkT k = nk1 (catB k.2.2.2) := by unfold nkT; rw [if_neg (by omega), if_pos h]
theorem nkT_ours {k : Ck} (h : ¬ k.1 = 4) (h2 : ¬ k.1 = 2) : nkT k = nk1 (catB k.2.2.1) := by unfold nkT; rw [if_neg h, if_neg h2]
theorem nkT_turned {k : Ck} (h : k.1 = 4) (h2 : lsB (catB k.2.2.2) (catB k.2.2.1) = true) : nkT k = nk3 (catB k.2.2.2) (catB k.2.1) (catB k.2.2.1) := by unfold nkT; rw [if_pos h, if_pos h2]
theorem nkT_clash {k : Ck} (h : k.1 = 4) (h2 : lsB (catB k.2.2.2) (catB k.2.2.1) = false) : nkT k = nk3 (catB k.2.2.1) (catB k.2.1) (catB k.2.2.2) := by unfold nkT; rw [if_pos h, if_neg (by rw [h2]; decide)]
def noT (l : List Ck) : ByteArray := catB (l.map nkT)
/-- Some chunk clashes. -/
def clB (l : List Ck) : Bool := l.any fun c => decide (c.1 = 4)
theorem cc_nonneg (l : List Ck) : 0 ≤ cc l := by
  unfold cc
  induction l with
  | nil => simp
  | cons c l ih =>
    simp only [List.map_cons, List.sum_cons]
    have : 0 ≤ cc1 c := by unfold cc1; split <;> omega
    omega
theorem clB_cc (l : List Ck) : clB l = decide (¬ cc l = 0) := by
  induction l with
  | nil => simp [clB, cc]
  | cons c l ih =>
    have e1 : clB (c :: l) = (decide (c.1 = 4) || clB l) := by simp [clB]
    have e2 : cc (c :: l) = cc1 c + cc l := by simp [cc]
    have h0 := cc_nonneg l
    rw [e1, ih, e2]
    unfold cc1
    by_cases h : c.1 = 4
    · rw [if_pos h, decide_eq_true h, Bool.true_or]
      exact (decide_eq_true (by omega)).symm
    · rw [if_neg h, decide_eq_false h, Bool.false_or, Int.zero_add]
theorem ckD_at (l : List Ck) (k : Nat) (h : k < l.length) : l.getD k cnil = l[k] := by simp [List.getD, h]
theorem clB_take (l : List Ck) (k : Nat) (h : k < l.length) : clB (l.take (k + 1)) = (clB (l.take k) || decide ((l.getD k cnil).1 = 4)) := by
  unfold clB
  rw [List.take_succ_eq_append_getElem h, List.any_append, ckD_at l k h]
  simp
theorem noT_take (l : List Ck) (k : Nat) (h : k < l.length) : noT (l.take (k + 1)) = noT (l.take k) ++ nkT (l.getD k cnil) := by
  unfold noT
  have e : ∀ n, (l.take n).map nkT = (l.map nkT).take n := fun n => by rw [List.map_take]
  rw [e, e, catB_take _ k (by simpa using h)]
  congr 1
  simp [List.getD, h]
theorem decB_size {n : Nat} (h : n < 10000) : (decB n).size ≤ 4 := by
  have one : ∀ m, m < 10 → (decB m).size = 1 := fun m hm => by rw [decB_one hm]; rfl
  have app : ∀ m, (decB m ++ (⟨#[UInt8.ofNat (48 + n % 10)]⟩ : ByteArray)).size = (decB m).size + 1 := fun m => by rw [ByteArray.size_append]; rfl
  have more : ∀ m, ¬ m < 10 → (decB m).size = (decB (m / 10)).size + 1 := fun m hm => by rw [decB_more hm, ByteArray.size_append]; rfl
  by_cases h1 : n < 10
  · rw [one n h1]; omega
  rw [more n h1]
  by_cases h2 : n / 10 < 10
  · rw [one _ h2]; omega
  rw [more _ h2]
  by_cases h3 : n / 10 / 10 < 10
  · rw [one _ h3]; omega
  rw [more _ h3, one _ (by omega)]
  exact Nat.le_refl _
theorem szN_size {n : Nat} (h : n < 10000) : (szN n).size ≤ 5 := by
  unfold szN
  rw [ByteArray.size_append]
  have := decB_size h
  have e : (⟨#[32]⟩ : ByteArray).size = 1 := rfl
  omega
/-- Every side of every chunk is short. -/
def Sml (l : List Ck) : Prop := ∀ c ∈ l, tot c.2.1 ≤ 2000 ∧ tot c.2.2.1 ≤ 2000 ∧ tot c.2.2.2 ≤ 2000 ∧ c.2.1.length ≤ 1048576 ∧ c.2.2.1.length ≤ 1048576 ∧ c.2.2.2.length ≤ 1048576
theorem cat_bd {ss : List ByteArray} (h : tot ss ≤ 2000) : (catB ss).size ≤ 2000 := by have := catB_size ss; omega
theorem nk1_size {x : ByteArray} (h : x.size ≤ 2000) : (nk1 x).size ≤ 6100 := by
  unfold nk1
  simp only [ByteArray.size_append]
  have := szN_size (n := x.size) (by omega)
  have e1 : (⟨#[61]⟩ : ByteArray).size = 1 := rfl
  have e2 : (⟨#[10]⟩ : ByteArray).size = 1 := rfl
  omega
theorem nk3_size {x o y : ByteArray} (h : x.size ≤ 2000) (h1 : o.size ≤ 2000) (h2 : y.size ≤ 2000) : (nk3 x o y).size ≤ 6100 := by
  unfold nk3
  simp only [ByteArray.size_append]
  have := szN_size (n := x.size) (by omega)
  have := szN_size (n := o.size) (by omega)
  have := szN_size (n := y.size) (by omega)
  have e1 : (⟨#[33]⟩ : ByteArray).size = 1 := rfl
  have e2 : (⟨#[10]⟩ : ByteArray).size = 1 := rfl
  omega
theorem nkT_size {l : List Ck} (h : Sml l) {c : Ck} (hc : c ∈ l) : (nkT c).size ≤ 6100 := by
  obtain ⟨h1, h2, h3, _⟩ := h c hc
  have a1 := cat_bd h1
  have a2 := cat_bd h2
  have a3 := cat_bd h3
  unfold nkT
  split
  · split
    · exact nk3_size a3 a1 a2
    · exact nk3_size a2 a1 a3
  · split
    · exact nk1_size a3
    · exact nk1_size a2
theorem noT_size {l : List Ck} (h : Sml l) : ∀ k, k ≤ l.length → (noT (l.take k)).size ≤ k * 6100 := by
  intro k
  induction k with
  | zero => intro _; exact Nat.le_refl _
  | succ k ih =>
    intro hk
    rw [noT_take l k (by omega), ByteArray.size_append]
    have := ih (by omega)
    have hm : l.getD k cnil ∈ l := by simp [List.getD, show k < l.length by omega]
    have := nkT_size h hm
    omega
theorem tot_app (a b : List ByteArray) : tot (a ++ b) = tot a + tot b := by simp [tot]
theorem tot_flat {l : List (List ByteArray)} {x : List ByteArray} (h : x ∈ l) : tot x ≤ tot l.flatten ∧ x.length ≤ l.flatten.length := by
  induction l with
  | nil => cases h
  | cons y l ih =>
    rw [List.flatten_cons, tot_app, List.length_append]
    have a1 := tot_nonneg y
    have a2 := tot_nonneg l.flatten
    rcases List.mem_cons.1 h with rfl | h
    · omega
    · have := ih h
      omega
theorem side_bd {l : List Ck} {c : Ck} (hc : c ∈ l) (i : Nat) : tot (sd i c) ≤ tot (sideL i l) ∧ (sd i c).length ≤ (sideL i l).length := by
  unfold sideL
  exact tot_flat (List.mem_map_of_mem hc)
theorem sml_of {a b c : ByteArray} (h : tx3 a b c = 0) : Sml (ckT (linesOf a) (linesOf b) (linesOf c)) := by
  obtain ⟨z1, z2, z3⟩ := tx3_zero h
  have b1 := lf_bd (Rm.lf_lines z1)
  have b2 := lf_bd (Rm.lf_lines z2)
  have b3 := lf_bd (Rm.lf_lines z3)
  obtain ⟨s1, s2, s3⟩ := ckT_side (linesOf a) (linesOf b) (linesOf c)
  intro k hk
  have d0 := side_bd hk 0
  have d1 := side_bd hk 1
  have d2 := side_bd hk 2
  rw [s1, sd0] at d0
  rw [s2, sd1] at d1
  rw [s3, sd2] at d2
  refine ⟨?_, ?_, ?_, ?_, ?_, ?_⟩ <;> omega
/-- What NormalText tells. -/
def noC (a b c : ByteArray) : Int := if tx3 a b c = 0 then (if cc (ckT (linesOf a) (linesOf b) (linesOf c)) = 0 then 4 else 0) else tx3 a b c
def noX (a b c : ByteArray) : ByteArray := if tx3 a b c = 0 ∧ ¬ cc (ckT (linesOf a) (linesOf b) (linesOf c)) = 0 then noT (ckT (linesOf a) (linesOf b) (linesOf c)) else ⟨#[]⟩
theorem no_fault {a b c : ByteArray} (h : ¬ tx3 a b c = 0) : noC a b c = tx3 a b c ∧ noX a b c = ⟨#[]⟩ := ⟨if_neg h, if_neg (fun k => h k.1)⟩
theorem no_none {a b c : ByteArray} (h : tx3 a b c = 0) (k : cc (ckT (linesOf a) (linesOf b) (linesOf c)) = 0) : noC a b c = 4 ∧ noX a b c = ⟨#[]⟩ := ⟨by unfold noC; rw [if_pos h, if_pos k], if_neg (fun q => q.2 k)⟩
theorem no_some {a b c : ByteArray} (h : tx3 a b c = 0) (k : ¬ cc (ckT (linesOf a) (linesOf b) (linesOf c)) = 0) : noC a b c = 0 ∧ noX a b c = noT (ckT (linesOf a) (linesOf b) (linesOf c)) := ⟨by unfold noC; rw [if_pos h, if_neg k], if_pos ⟨h, k⟩⟩
theorem ret_ct {a b : Int} {s t : ByteArray} (h : a = b) (k : s = t) : Ending.returned (.agg #[.int .i64 a, .string s]) = .returned (.agg #[.int .i64 b, .string t]) := by rw [h, k]
end Go.Proofs.YtmmccpdaklkciaaGreatDoor.No
