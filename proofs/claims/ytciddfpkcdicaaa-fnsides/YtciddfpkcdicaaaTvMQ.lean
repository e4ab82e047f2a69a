/- Chunks of three texts whose sides are changed, or of which two are the same; and what a merge takes of them. Plain mathematics. No statement is proved here. -/
import Derived.Test.YtciddfpkcdicaaaRows
import Derived.Test.YtciddfpkcdicaaaLemQ
import Derived.Test.YtciddfpkcdicaaaLFLemQ
import Derived.Test.YtciddfpkcdicaaaTFQ
import Derived.Test.YtciddfpkcdicaaaComQ
import Derived.Test.YtciddfpkcdicaaaKpMQ
import Derived.Test.YtciddfpkcdicaaaCkLQ
import Derived.Test.YtciddfpkcdicaaaCkBQ
import Derived.Test.YtciddfpkcdicaaaCtLQ
import Derived.Test.YtciddfpkcdicaaaCtTQ
import Derived.Test.YtciddfpkcdicaaaKpDQ
import Derived.Test.YtciddfpkcdicaaaKpJQ
import Derived.Test.YtciddfpkcdicaaaRtMQ
import Derived.Test.YtciddfpkcdicaaaMxJQ
namespace Go.Proofs.Ytciddfpkcdicaaa
open Go.RowKit

/-- The two sides changed. -/
def sw3 (p : T3) : T3 := (p.1, p.2.2, p.2.1)
def swS (s : T3 × T3) : T3 × T3 := (sw3 s.1, sw3 s.2)
def swD (c : Ck) : Ck := (kd c.2.1 c.2.2.2 c.2.2.1, c.2.1, c.2.2.2, c.2.2.1)
theorem both_comm (A B : Nat → Int) (i : Nat) : both B A i = both A B i := by
  unfold both; rw [decide_eq_decide]; exact and_comm
theorem keptR_sw (A B : Nat → Int) : ∀ (n i : Nat), keptR B A i n = (keptR A B i n).map sw3 := by
  intro n
  induction n with
  | zero => intro i; rfl
  | succ n ih =>
    intro i
    cases h : both A B i with
    | true => rw [keptR_yes h, keptR_yes ((both_comm A B i).trans h), List.map_cons, ih]; rfl
    | false => rw [keptR_no h, keptR_no ((both_comm A B i).trans h), ih]
theorem kp_sw (x1 x2 x3 : List ByteArray) : kpL x1 x3 x2 = (kpL x1 x2 x3).map sw3 := keptR_sw _ _ _ _
theorem sw3_inj {p q : T3} : sw3 p = sw3 q ↔ p = q := by
  constructor
  · intro h
    obtain ⟨a, b, c⟩ := p
    obtain ⟨d, e, f⟩ := q
    simp only [sw3, Prod.mk.injEq] at h ⊢
    exact ⟨h.1, h.2.2, h.2.1⟩
  · intro h; rw [h]
theorem tog_sw : ∀ (r : List T3) (p : T3), tog (sw3 p) (r.map sw3) = tog p r := by
  intro r
  induction r with
  | nil => intro p; rfl
  | cons q r ih =>
    intro p
    rw [List.map_cons, tog, tog]
    have e : nx (sw3 p) = sw3 (nx p) := rfl
    rw [e]
    by_cases h : q = nx p
    · rw [if_pos h, if_pos (by rw [h]), ih]
    · rw [if_neg h, if_neg (fun k => h (sw3_inj.1 k))]
theorem segs_sw (E : T3) : ∀ (n : Nat) (l : List T3) (f : T3), l.length ≤ n → segs (sw3 E) (sw3 f) (l.map sw3) = (segs E f l).map swS := by
  intro n
  induction n with
  | zero =>
    intro l f h
    have e : l = [] := List.length_eq_zero_iff.1 (by omega)
    subst e
    rw [List.map_nil, segs_nil, segs_nil]; rfl
  | succ n ih =>
    intro l f h
    cases l with
    | nil => rw [List.map_nil, segs_nil, segs_nil]; rfl
    | cons p r =>
      rw [List.map_cons, segs_cons, segs_cons, tog_sw, List.map_cons, List.map_cons]
      have e : ad (sw3 p) (tog p r + 1) = sw3 (ad p (tog p r + 1)) := rfl
      rw [e, ← List.map_drop, ih _ _ (by simp only [List.length_drop, List.length_cons] at h ⊢; omega)]
      rfl
theorem bare_sw (k m : Int) (x1 x2 x3 : List ByteArray) : bare (k, x1, x3, x2) = bare (m, x1, x2, x3) := by
  unfold bare; rw [decide_eq_decide]; exact ⟨fun h => ⟨h.1, h.2.2, h.2.1⟩, fun h => ⟨h.1, h.2.2, h.2.1⟩⟩
theorem ptK_sw (x1 x2 x3 : List ByteArray) (s : T3 × T3) : ptK x1 x3 x2 (swS s) = (ptK x1 x2 x3 s).map swD := by
  unfold ptK
  show putK (sgK x1 s.1.1 s.2.1) (sgK x3 s.1.2.2 s.2.2.2) (sgK x2 s.1.2.1 s.2.2.1) = _
  unfold putK
  rw [bare_sw 0 0]
  split
  · rfl
  · rfl
theorem ckT_sw (x1 x2 x3 : List ByteArray) : ckT x1 x3 x2 = (ckT x1 x2 x3).map swD := by
  unfold ckT
  rw [kp_sw, show ((x1.length, x3.length, x2.length) : T3) = sw3 (x1.length, x2.length, x3.length) from rfl, show ((0, 0, 0) : T3) = sw3 (0, 0, 0) from rfl, segs_sw _ _ _ _ (Nat.le_refl _), List.flatMap_map, List.map_flatMap]
  congr 1
  funext s
  exact ptK_sw x1 x2 x3 s
/-- The pieces of one text, one behind another. -/
theorem sgK_join (xs : List ByteArray) {i j k : Nat} (h1 : i ≤ j) (h2 : j ≤ k) : sgK xs i j ++ sgK xs j k = sgK xs i k := by
  unfold sgK
  have e : k - i = (j - i) + (k - j) := by omega
  rw [e, List.take_add, List.drop_drop, show i + (j - i) = j by omega]
theorem segs_flat (E : T3) (xs : List ByteArray) (g : T3 → Nat) (hg : ∀ p q, le3 p q → g p ≤ g q) : ∀ (n : Nat) (l : List T3) (f : T3), l.length ≤ n → le3 f E → l.Pairwise lt3 → (∀ p ∈ l, le3 f p ∧ le3 (nx p) E) →
    (segs E f l).flatMap (fun s => sgK xs (g s.1) (g s.2)) = sgK xs (g f) (g E) := by
  intro n
  induction n with
  | zero =>
    intro l f hl _ _ _
    have e : l = [] := List.length_eq_zero_iff.1 (by omega)
    subst e
    rw [segs_nil]; simp
  | succ n ih =>
    intro l f hl hf hp hm
    cases l with
    | nil => rw [segs_nil]; simp
    | cons p r =>
      have hs := segs_ok E (n + 1) (p :: r) f hl hf hp hm
      rw [segs_cons] at hs ⊢
      have a1 := hs (f, p) (List.mem_cons_self ..)
      have a2 := hs (p, ad p (tog p r + 1)) (List.mem_cons_of_mem _ (List.mem_cons_self ..))
      have hi := ih (r.drop (tog p r)) (ad p (tog p r + 1)) (by simp only [List.length_drop, List.length_cons] at hl ⊢; omega) a2.2 (List.Pairwise.sublist (List.drop_sublist _ _) (List.pairwise_cons.1 hp).2)
        (fun q hq => ⟨tog_drop r p hp q hq, (hm q (List.mem_cons_of_mem _ (List.mem_of_mem_drop hq))).2⟩)
      rw [List.flatMap_cons, List.flatMap_cons, hi, sgK_join xs (hg _ _ a2.1) (hg _ _ a2.2), sgK_join xs (hg _ _ a1.1) (hg _ _ a1.2)]
theorem kp_flat (x1 x2 x3 xs : List ByteArray) (g : T3 → Nat) (hg : ∀ p q, le3 p q → g p ≤ g q) : (segs (x1.length, x2.length, x3.length) (0, 0, 0) (kpL x1 x2 x3)).flatMap (fun s => sgK xs (g s.1) (g s.2)) = sgK xs (g (0, 0, 0)) (g (x1.length, x2.length, x3.length)) :=
  segs_flat _ xs g hg _ _ _ (Nat.le_refl _) ⟨Nat.zero_le _, Nat.zero_le _, Nat.zero_le _⟩ (kp_rises x1 x2 x3) (fun p hp => by
    have h := kp_mem hp
    exact ⟨⟨Nat.zero_le _, Nat.zero_le _, Nat.zero_le _⟩, ⟨by show p.1 + 1 ≤ x1.length; omega, by show p.2.1 + 1 ≤ x2.length; omega, by show p.2.2 + 1 ≤ x3.length; omega⟩⟩)
theorem sgK_all (xs : List ByteArray) : sgK xs 0 xs.length = xs := by unfold sgK; simp
theorem putK_sd (i : Nat) (y1 y2 y3 : List ByteArray) : (putK y1 y2 y3).flatMap (sd i) = sd i (0, y1, y2, y3) := by
  cases h : bare (0, y1, y2, y3) with
  | true =>
    rw [putK_yes h]
    have h := of_decide_eq_true h
    simp only [List.length_eq_zero_iff] at h
    obtain ⟨rfl, rfl, rfl⟩ := h
    unfold sd
    split
    · rfl
    · split <;> rfl
  | false => rw [putK_no h]; simp [sd]
/-- Chunks have all lines of all three texts. -/
theorem ckT_side (x1 x2 x3 : List ByteArray) : sideL 0 (ckT x1 x2 x3) = x1 ∧ sideL 1 (ckT x1 x2 x3) = x2 ∧ sideL 2 (ckT x1 x2 x3) = x3 := by
  have key : ∀ i, sideL i (ckT x1 x2 x3) = (segs (x1.length, x2.length, x3.length) (0, 0, 0) (kpL x1 x2 x3)).flatMap (fun s => sd i (0, sgK x1 s.1.1 s.2.1, sgK x2 s.1.2.1 s.2.2.1, sgK x3 s.1.2.2 s.2.2.2)) := fun i => by
    unfold sideL ckT
    rw [← List.flatMap_def, List.flatMap_assoc]
    congr 1
    funext s
    exact putK_sd i _ _ _
  refine ⟨?_, ?_, ?_⟩
  · rw [key 0]
    exact (kp_flat x1 x2 x3 x1 (fun p => p.1) (fun p q h => h.1)).trans (sgK_all x1)
  · rw [key 1]
    exact (kp_flat x1 x2 x3 x2 (fun p => p.2.1) (fun p q h => h.2.1)).trans (sgK_all x2)
  · rw [key 2]
    exact (kp_flat x1 x2 x3 x3 (fun p => p.2.2) (fun p q h => h.2.2)).trans (sgK_all x3)
/-- Pieces keep what their places keep. -/
theorem segs_keep (P : T3 → Prop) (hP : ∀ p n, P p → P (ad p n)) (E : T3) (hE : P E) : ∀ (n : Nat) (l : List T3) (f : T3), l.length ≤ n → P f → (∀ p ∈ l, P p) → ∀ s ∈ segs E f l, P s.1 ∧ P s.2 := by
  intro n
  induction n with
  | zero =>
    intro l f hl hf _ s hs
    have e : l = [] := List.length_eq_zero_iff.1 (by omega)
    subst e
    rw [segs_nil] at hs
    obtain rfl := List.mem_singleton.1 hs
    exact ⟨hf, hE⟩
  | succ n ih =>
    intro l f hl hf hm s hs
    cases l with
    | nil =>
      rw [segs_nil] at hs
      obtain rfl := List.mem_singleton.1 hs
      exact ⟨hf, hE⟩
    | cons p r =>
      have hp := hm p (List.mem_cons_self ..)
      rw [segs_cons] at hs
      rcases List.mem_cons.1 hs with rfl | hs
      · exact ⟨hf, hp⟩
      · rcases List.mem_cons.1 hs with rfl | hs
        · exact ⟨hp, hP _ _ hp⟩
        · exact ih _ _ (by simp only [List.length_drop, List.length_cons] at hl ⊢; omega) (hP _ _ hp) (fun q hq => hm q (List.mem_cons_of_mem _ (List.mem_of_mem_drop hq))) s hs
theorem mat_diag (x : List ByteArray) : ∀ (n i : Nat), x.length - i ≤ n → ∀ p ∈ mat x x i i, p.1 = p.2 := by
  intro n
  induction n with
  | zero => intro i h p hp; rw [mat_end x x i i (by omega)] at hp; cases hp
  | succ n ih =>
    intro i h p hp
    by_cases hi : i < x.length
    · rw [mat_eq x x i i hi hi rfl] at hp
      rcases List.mem_cons.1 hp with rfl | hp
      · rfl
      · exact ih (i + 1) (by omega) p hp
    · rw [mat_end x x i i (by omega)] at hp; cases hp
theorem kp_third {x1 x2 : List ByteArray} {p : T3} (h : p ∈ kpL x1 x2 x1) : p.2.2 = p.1 := by
  obtain ⟨_, h1, h2, h3⟩ := keptR_mem _ _ p h
  rcases part_cases (mat x1 x1 0 0) p.1 with e | ⟨j, e, hm⟩
  · omega
  · have := mat_diag x1 _ 0 (Nat.le_refl _) _ hm
    simp only [] at this
    omega
theorem kp_same {x1 x2 : List ByteArray} {p : T3} (h : p ∈ kpL x1 x2 x2) : p.2.2 = p.2.1 := by
  obtain ⟨_, h1, h2, h3⟩ := keptR_mem _ _ p h
  omega
/-- Where theirs is the base, it is so in each chunk; and where both sides are the same. -/
theorem ckT_third {x1 x2 : List ByteArray} {c : Ck} (h : c ∈ ckT x1 x2 x1) : c.2.2.2 = c.2.1 ∧ c.1 = kd c.2.1 c.2.2.1 c.2.2.2 := by
  unfold ckT at h
  obtain ⟨s, hs, hc⟩ := List.mem_flatMap.1 h
  have k := segs_keep (fun p => p.2.2 = p.1) (fun p n (e : p.2.2 = p.1) => by show p.2.2 + n = p.1 + n; omega) (x1.length, x2.length, x1.length) rfl _ _ (0, 0, 0) (Nat.le_refl _) rfl (fun p hp => kp_third hp) s hs
  unfold ptK putK at hc
  rw [k.1, k.2] at hc
  split at hc
  · cases hc
  · rw [List.mem_singleton] at hc
    subst hc
    exact ⟨rfl, rfl⟩
theorem ckT_same {x1 x2 : List ByteArray} {c : Ck} (h : c ∈ ckT x1 x2 x2) : c.2.2.2 = c.2.2.1 ∧ c.1 = kd c.2.1 c.2.2.1 c.2.2.2 := by
  unfold ckT at h
  obtain ⟨s, hs, hc⟩ := List.mem_flatMap.1 h
  have k := segs_keep (fun p => p.2.2 = p.2.1) (fun p n (e : p.2.2 = p.2.1) => by show p.2.2 + n = p.2.1 + n; omega) (x1.length, x2.length, x2.length) rfl _ _ (0, 0, 0) (Nat.le_refl _) rfl (fun p hp => kp_same hp) s hs
  unfold ptK putK at hc
  rw [k.1, k.2] at hc
  split at hc
  · cases hc
  · rw [List.mem_singleton] at hc
    subst hc
    exact ⟨rfl, rfl⟩
theorem kd_third (b o : List ByteArray) : ¬ kd b o b = 4 ∧ ¬ kd b o b = 2 := by
  unfold kd
  rw [eqB_self]
  split <;> simp
theorem kd_twice (b o : List ByteArray) : ¬ kd b o o = 4 ∧ ¬ kd b o o = 2 := by
  unfold kd
  rw [eqB_self]
  by_cases h : eqB b o = true
  · simp [h]
  · simp [h]
theorem pts_side : ∀ (l : List Ck), (∀ c ∈ l, ¬ c.1 = 4 ∧ ¬ c.1 = 2) → ptsA l = sideL 1 l ∧ cc l = 0 := by
  intro l
  induction l with
  | nil => intro _; exact ⟨rfl, rfl⟩
  | cons c l ih =>
    intro h
    obtain ⟨h1, h2⟩ := h c (List.mem_cons_self ..)
    obtain ⟨i1, i2⟩ := ih (fun d hd => h d (List.mem_cons_of_mem _ hd))
    constructor
    · show pts c ++ ptsA l = sd 1 c ++ sideL 1 l
      rw [i1]
      unfold pts
      rw [if_neg h1, if_neg h2]; rfl
    · show cc1 c + cc l = 0
      rw [i2]
      unfold cc1
      rw [if_neg (by exact h1)]; rfl
/-- What a merge takes where one side alone has changed, or both are the same. -/
theorem pts_third (x1 x2 : List ByteArray) : ptsA (ckT x1 x2 x1) = x2 ∧ cc (ckT x1 x2 x1) = 0 := by
  obtain ⟨h1, h2⟩ := pts_side (ckT x1 x2 x1) (fun c hc => by
    obtain ⟨e1, e2⟩ := ckT_third hc
    rw [e2, e1]
    exact kd_third _ _)
  exact ⟨h1.trans (ckT_side x1 x2 x1).2.1, h2⟩
theorem pts_twice (x1 x2 : List ByteArray) : ptsA (ckT x1 x2 x2) = x2 ∧ cc (ckT x1 x2 x2) = 0 := by
  obtain ⟨h1, h2⟩ := pts_side (ckT x1 x2 x2) (fun c hc => by
    obtain ⟨e1, e2⟩ := ckT_same hc
    rw [e2, e1]
    exact kd_twice _ _)
  exact ⟨h1.trans (ckT_side x1 x2 x2).2.1, h2⟩
/-- Right lines are joined as they are. -/
theorem ok_ends {l : List UInt8} (h : okLine l false = true) : endsL l = true := by
  rcases Rm.ok_inv h with ⟨a, _, rfl⟩ | ⟨_, _, h⟩
  · unfold endsL; simp
  · cases h
theorem jn_right : ∀ (ss : List ByteArray), Rm.Right (Rm.dat ss) → jnF ss = Rm.catL ss
  | [], _ => rfl
  | [s], _ => by simp [jnF, Rm.catL]
  | s :: t :: r, h => by
    have ih := jn_right (t :: r) h.2
    have e : endL s = s.data.toList := by unfold endL; rw [if_pos (ok_ends h.1)]
    rw [jnF, ih, e]
    simp [Rm.catL]
theorem jn_lines (s : ByteArray) : (⟨(jnF (linesOf s)).toArray⟩ : ByteArray) = s := by
  have h : Rm.Right (Rm.dat (linesOf s)) := by
    rw [Rm.dat_lines]
    exact Rm.right_spl _ _ (Nat.le_refl _)
  rw [jn_right _ h]
  exact Rm.join_lines s
/-- How many lines a text has. -/
theorem spl_count (l : List UInt8) : (spl l).length = l.count 10 + (if l = [] ∨ endsL l = true then 0 else 1) := by
  induction l with
  | nil => rfl
  | cons c l ih =>
    rw [spl]
    by_cases hl : l = []
    · subst hl
      by_cases hc : c = 10
      · subst hc; simp [spl, endsL]
      · rw [if_neg hc]
        simp [spl, endsL, hc]
    · have he : endsL (c :: l) = endsL l := endsL_app [c] l hl
      have e2 : (c :: l = [] ∨ endsL (c :: l) = true) = (l = [] ∨ endsL l = true) := by
        rw [he]
        simp [hl]
      by_cases hc : c = 10
      · rw [if_pos hc, List.length_cons, ih]
        simp only [e2]
        rw [hc, List.count_cons_self]
        omega
      · rw [if_neg hc]
        have hne : spl l ≠ [] := fun e => by
          have := Rm.spl_flatten l
          rw [e] at this
          exact hl this.symm
        cases hs : spl l with
        | nil => exact absurd hs hne
        | cons x xs =>
          rw [hs] at ih
          simp only [List.length_cons] at ih ⊢
          simp only [e2]
          rw [ih, List.count_cons_of_ne (fun q => hc q)]
/-- Two parts that have the same bytes, in whatever order, and end alike. -/
def Alike (s t : ByteArray) : Prop := s.data.toList.Perm t.data.toList ∧ endsL s.data.toList = endsL t.data.toList
theorem Alike.refl (s : ByteArray) : Alike s s := ⟨List.Perm.refl _, rfl⟩
theorem Alike.endL {s t : ByteArray} (h : Alike s t) : (endL s).Perm (endL t) := by
  unfold Proofs.Ytciddfpkcdicaaa.endL
  rw [h.2]
  split
  · exact h.1
  · exact h.1.append_right _
theorem endsL_end (s : ByteArray) : endsL (endL s) = true := by
  unfold endL
  split
  · assumption
  · unfold endsL; simp
def Alikes : List ByteArray → List ByteArray → Prop
  | [], [] => True
  | s :: ss, t :: ts => Alike s t ∧ Alikes ss ts
  | _, _ => False
theorem Alikes.refl : ∀ (ss : List ByteArray), Alikes ss ss
  | [] => trivial
  | s :: ss => ⟨Alike.refl s, Alikes.refl ss⟩
theorem Alikes.app : ∀ {a b c d : List ByteArray}, Alikes a b → Alikes c d → Alikes (a ++ c) (b ++ d)
  | [], [], _, _, _, h => h
  | _ :: _, _ :: _, _, _, h, k => ⟨h.1, Alikes.app h.2 k⟩
  | [], _ :: _, _, _, h, _ => absurd h (by exact fun x => x)
  | _ :: _, [], _, _, h, _ => absurd h (by exact fun x => x)
theorem jn_alike : ∀ (ss ts : List ByteArray), (∀ s ∈ ss, s.data.toList ≠ []) → Alikes ss ts → (jnF ss).Perm (jnF ts) ∧ endsL (jnF ss) = endsL (jnF ts)
  | [], [], _, _ => ⟨List.Perm.refl _, rfl⟩
  | [s], [t], _, h => ⟨h.1.1, h.1.2⟩
  | s :: s' :: ss, t :: t' :: ts, hn, h => by
    obtain ⟨i1, i2⟩ := jn_alike (s' :: ss) (t' :: ts) (fun x hx => hn x (List.mem_cons_of_mem _ hx)) h.2
    have n1 : jnF (s' :: ss) ≠ [] := by
      have h0 := hn s' (List.mem_cons_of_mem _ (List.mem_cons_self ..))
      cases ss with
      | nil => exact h0
      | cons x xs =>
        rw [jnF]
        intro e
        have e1 := (List.append_eq_nil_iff.1 e).1
        unfold endL at e1
        split at e1
        · exact h0 e1
        · simp at e1
    have n2 : jnF (t' :: ts) ≠ [] := fun e => n1 (List.length_eq_zero_iff.1 (by rw [i1.length_eq, e]; rfl))
    rw [jnF, jnF]
    exact ⟨List.Perm.append h.1.endL i1, by rw [endsL_app _ _ n1, endsL_app _ _ n2, i2]⟩
  | [], _ :: _, _, h => absurd h (by exact fun x => x)
  | _ :: _, [], _, h => absurd h (by exact fun x => x)
  | [_], _ :: _ :: _, _, h => absurd h.2 (by exact fun x => x)
  | _ :: _ :: _, [_], _, h => absurd h.2 (by exact fun x => x)
/-- The text of a clash with its sides changed. -/
theorem clash_alike (b o t : List ByteArray) : Alike (clashB b o t) (clashB b t o) := by
  have e : ∀ x y, (clashB b x y).data.toList = clashL b x y := fun x y => by simp [clashB]
  refine ⟨?_, ?_⟩
  · rw [e, e]
    rw [List.perm_iff_count]
    intro a
    unfold clashL
    simp only [List.count_append]
    omega
  · rw [e, e]
    have k : ∀ x y, endsL (clashL b x y) = true := fun x y => by
      unfold clashL
      rw [endsL_app _ _ (by decide)]
      decide
    rw [k, k]
theorem eqB_iff {xs ys : List ByteArray} : eqB xs ys = true ↔ xs = ys := ⟨fun h => of_decide_eq_true h, fun h => decide_eq_true h⟩
/-- A chunk with its sides changed: it clashes just so, and what is taken of it is alike; the same, where it does not clash. -/
theorem kd_four (b o t : List ByteArray) : kd b t o = 4 ↔ kd b o t = 4 := by
  have key : ∀ o t, kd b o t = 4 ↔ (¬ b = o ∧ ¬ b = t ∧ ¬ o = t) := fun o t => by
    unfold kd
    simp only [eqB_iff]
    by_cases h1 : b = o
    · rw [if_pos h1]; split <;> simp [h1]
    · rw [if_neg h1]
      by_cases h2 : b = t
      · rw [if_pos h2]; simp [h2]
      · rw [if_neg h2]
        by_cases h3 : o = t
        · rw [if_pos h3]; simp [h3]
        · rw [if_neg h3]; simp [h1, h2, h3]
  rw [key, key]
  exact ⟨fun h => ⟨h.2.1, h.1, fun e => h.2.2 e.symm⟩, fun h => ⟨h.2.1, h.1, fun e => h.2.2 e.symm⟩⟩
theorem pts_sw {c : Ck} (hk : c.1 = kd c.2.1 c.2.2.1 c.2.2.2) (h : ¬ c.1 = 4) : pts (swD c) = pts c := by
  obtain ⟨k, b, o, t⟩ := c
  simp only [] at hk
  subst hk
  have h4 : ¬ kd b t o = 4 := fun e => h ((kd_four b o t).1 e)
  unfold pts swD
  simp only []
  simp only [] at h
  rw [if_neg h, if_neg h4]
  unfold kd
  simp only [eqB_iff]
  unfold kd at h
  simp only [eqB_iff] at h
  by_cases h1 : b = o
  · subst h1
    by_cases h2 : b = t
    · subst h2; simp
    · simp [h2]
  · by_cases h2 : b = t
    · subst h2; simp [h1]
    · by_cases h3 : o = t
      · subst h3; simp [h1]
      · simp [h1, h2, h3] at h
theorem ptsA_sw : ∀ (l : List Ck), (∀ c ∈ l, c.1 = kd c.2.1 c.2.2.1 c.2.2.2) → Alikes (ptsA l) (ptsA (l.map swD)) ∧ cc (l.map swD) = cc l ∧ (cc l = 0 → ptsA (l.map swD) = ptsA l) := by
  intro l
  induction l with
  | nil => intro _; exact ⟨trivial, rfl, fun _ => rfl⟩
  | cons c l ih =>
    intro h
    have hc := h c (List.mem_cons_self ..)
    obtain ⟨i1, i2, i3⟩ := ih (fun d hd => h d (List.mem_cons_of_mem _ hd))
    have e1 : ptsA (c :: l) = pts c ++ ptsA l := rfl
    have e2 : ptsA ((c :: l).map swD) = pts (swD c) ++ ptsA (l.map swD) := rfl
    have e3 : cc (c :: l) = cc1 c + cc l := rfl
    have e4 : cc ((c :: l).map swD) = cc1 (swD c) + cc (l.map swD) := rfl
    rw [e1, e2, e3, e4, i2]
    have nn := (cc_bd l).1
    by_cases h4 : c.1 = 4
    · have k4 : (swD c).1 = 4 := by
        show kd c.2.1 c.2.2.2 c.2.2.1 = 4
        rw [kd_four, ← hc]; exact h4
      have q1 : cc1 c = 1 := by unfold cc1; rw [if_pos h4]
      have q2 : cc1 (swD c) = 1 := by unfold cc1; rw [if_pos k4]
      refine ⟨Alikes.app ?_ i1, by rw [q1, q2], fun e => absurd e (by rw [q1]; omega)⟩
      unfold pts
      rw [if_pos h4, if_pos k4]
      exact ⟨clash_alike _ _ _, trivial⟩
    · have k4 : ¬ (swD c).1 = 4 := fun e => h4 (by
        have e : kd c.2.1 c.2.2.2 c.2.2.1 = 4 := e
        rw [kd_four] at e
        rw [hc]; exact e)
      have q1 : cc1 c = 0 := by unfold cc1; rw [if_neg h4]
      have q2 : cc1 (swD c) = 0 := by unfold cc1; rw [if_neg k4]
      rw [pts_sw hc h4]
      exact ⟨Alikes.app (Alikes.refl _) i1, by rw [q1, q2], fun e => by rw [i3 (by omega)]⟩
end Go.Proofs.Ytciddfpkcdicaaa
/- What MergeTexts tells where two of three texts are the same, and where its sides are changed. Plain mathematics. No statement is proved here. -/
namespace Go.Proofs.Ytciddfpkcdicaaa
open Go.RowKit

theorem tf_two (s : ByteArray) : tf s = 0 ∨ tf s = 2 := by
  by_cases h : 2000 < (s.size : Int) ∨ 100 < ((linesOf s).length : Int)
  · exact .inr (tf_many h)
  · exact .inl (tf_ok (by omega))
theorem tx3_ok {a b c : ByteArray} (ha : tf a = 0) (hb : tf b = 0) (hc : tf c = 0) : tx3 a b c = 0 := by
  unfold tx3; rw [if_pos ha, if_pos hb, hc]
/-- What is told where what is taken is the second text. -/
theorem mt_of {a b c d : ByteArray} (ha : tf a = 0) (hb : tf b = 0) (hc : tf c = 0) (hd : tf d = 0) (hp : ptsA (ckT (linesOf a) (linesOf b) (linesOf c)) = linesOf d) (hk : cc (ckT (linesOf a) (linesOf b) (linesOf c)) = 0) : mtR a b c = 0 ∧ mtN a b c = 0 ∧ mtT a b c = d := by
  have e : mtB a b c = d := by
    unfold mtB mgB
    rw [hp]
    exact jn_lines d
  have r : mtR a b c = 0 := by
    unfold mtR
    rw [if_pos (tx3_ok ha hb hc), e, hd]
  refine ⟨r, ?_, ?_⟩
  · unfold mtN; rw [if_pos r, hk]
  · unfold mtT; rw [if_pos r, e]
theorem ckT_kinds {x1 x2 x3 : List ByteArray} : ∀ c ∈ ckT x1 x2 x3, c.1 = kd c.2.1 c.2.2.1 c.2.2.2 := fun _ hc => (ckT_parts hc).1
/-- What one side alone changed is taken, and so is what both made the same. -/
theorem mt_trivial {a b : ByteArray} (ha : tf a = 0) (hb : tf b = 0) : (mtR a b a = 0 ∧ mtN a b a = 0 ∧ mtT a b a = b) ∧ (mtR a a b = 0 ∧ mtN a a b = 0 ∧ mtT a a b = b) ∧ (mtR a b b = 0 ∧ mtN a b b = 0 ∧ mtT a b b = b) := by
  obtain ⟨p1, k1⟩ := pts_third (linesOf a) (linesOf b)
  obtain ⟨p2, k2⟩ := pts_twice (linesOf a) (linesOf b)
  obtain ⟨_, q2, q3⟩ := ptsA_sw (ckT (linesOf a) (linesOf b) (linesOf a)) ckT_kinds
  rw [← ckT_sw] at q2 q3
  exact ⟨mt_of ha hb ha hb p1 k1, mt_of ha ha hb hb ((q3 k1).trans p1) (q2.trans k1), mt_of ha hb hb hb p2 k2⟩
/-- Whoever's side is which, as much clashes, and what does not clash is the same. -/
theorem mt_sides (a b c : ByteArray) : mtR a c b = mtR a b c ∧ mtN a c b = mtN a b c ∧ (mtT a c b).size = (mtT a b c).size ∧ (¬ 0 < mtN a b c → mtT a c b = mtT a b c) := by
  have hx : tx3 a c b = tx3 a b c := by
    unfold tx3
    rcases tf_two b with e | e <;> rcases tf_two c with e' | e' <;> rw [e, e'] <;> simp
  by_cases h : tx3 a b c = 0
  · have hx' := hx.trans h
    obtain ⟨z1, z2, z3⟩ := tx3_zero h
    have ok := mxOK (Rm.lf_lines z1) (Rm.lf_lines z2) (Rm.lf_lines z3)
    obtain ⟨q1, q2, q3⟩ := ptsA_sw (ckT (linesOf a) (linesOf b) (linesOf c)) ckT_kinds
    rw [← ckT_sw] at q1 q2 q3
    obtain ⟨j1, j2⟩ := jn_alike _ _ ok.full q1
    have d : ∀ x y, (mtB a x y).data.toList = jnF (ptsA (ckT (linesOf a) (linesOf x) (linesOf y))) := fun x y => by simp [mtB, mgB]
    have hs : (mtB a c b).size = (mtB a b c).size := by
      have e1 : ∀ s : ByteArray, s.size = s.data.toList.length := fun s => by simp
      rw [e1, e1, d, d, j1.length_eq]
    have hl : (linesOf (mtB a c b)).length = (linesOf (mtB a b c)).length := by
      have e1 : ∀ s : ByteArray, (linesOf s).length = (spl s.data.toList).length := fun s => by
        rw [← Rm.dat_lines]; unfold Rm.dat; rw [List.length_map]
      have e2 : (jnF (ptsA (ckT (linesOf a) (linesOf b) (linesOf c))) = [] ∨ endsL (jnF (ptsA (ckT (linesOf a) (linesOf b) (linesOf c)))) = true) = (jnF (ptsA (ckT (linesOf a) (linesOf c) (linesOf b))) = [] ∨ endsL (jnF (ptsA (ckT (linesOf a) (linesOf c) (linesOf b)))) = true) := by
        rw [j2, ← List.length_eq_zero_iff, ← List.length_eq_zero_iff, j1.length_eq]
      rw [e1, e1, d, d, spl_count, spl_count, j1.count_eq]
      simp only [e2]
    have ht : tf (mtB a c b) = tf (mtB a b c) := by
      by_cases k : 2000 < ((mtB a b c).size : Int) ∨ 100 < ((linesOf (mtB a b c)).length : Int)
      · rw [tf_many k, tf_many (by rw [hs, hl]; exact k)]
      · rw [tf_ok (s := mtB a b c) (by omega), tf_ok (s := mtB a c b) (by rw [hs, hl]; omega)]
    have hr : mtR a c b = mtR a b c := by unfold mtR; rw [if_pos h, if_pos hx', ht]
    have hn : mtN a c b = mtN a b c := by unfold mtN; rw [hr, q2]
    refine ⟨hr, hn, ?_, fun k => ?_⟩
    · unfold mtT
      rw [hr]
      split
      · exact hs
      · rfl
    · unfold mtT
      rw [hr]
      split
      · rename_i e
        unfold mtN at k
        rw [if_pos e] at k
        have nn := (cc_bd (ckT (linesOf a) (linesOf b) (linesOf c))).1
        unfold mtB mgB
        rw [q3 (by omega)]
      · rfl
  · have hx' : ¬ tx3 a c b = 0 := by rw [hx]; exact h
    have r1 : mtR a b c = tx3 a b c := if_neg h
    have r2 : mtR a c b = tx3 a c b := if_neg hx'
    have hr : mtR a c b = mtR a b c := by rw [r1, r2, hx]
    have h0 : ¬ mtR a b c = 0 := by rw [r1]; exact h
    have h1 : ¬ mtR a c b = 0 := by rw [hr]; exact h0
    unfold mtN mtT
    rw [if_neg h0, if_neg h1, if_neg h0, if_neg h1]
    exact ⟨hr, rfl, rfl, fun _ => rfl⟩
end Go.Proofs.Ytciddfpkcdicaaa
