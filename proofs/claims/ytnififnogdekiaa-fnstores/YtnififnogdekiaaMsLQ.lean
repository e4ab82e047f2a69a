/- Two stores put together: mathematics. No statement is proved here. -/
import Derived.Test.YtnififnogdekiaaRows
import Derived.Test.YtnififnogdekiaaLemQ
import Derived.Test.YtnififnogdekiaaIdMQ
import Derived.Test.YtnififnogdekiaaObLQ
import Derived.Test.YtnififnogdekiaaSfCQ
import Derived.Test.YtnififnogdekiaaGtSQ
import Derived.Test.YtnififnogdekiaaShQQ
import Derived.Test.YtnififnogdekiaaPuLQ
import Derived.Test.YtnififnogdekiaaPuSQ
import Derived.Test.YtnififnogdekiaaShTQ
import Derived.Test.YtnififnogdekiaaInQ
import Derived.Test.YtnififnogdekiaaTFQ
import Derived.Test.YtnififnogdekiaaShMQ
namespace Go.Proofs.Ytnififnogdekiaa
open Go.ChangeShapes Go.WideShapes Go.ChangeAt Go.RowKit

theorem fz_miss {l : List Ob} {id : ByteArray} (h : ∀ o ∈ l, o.1 ≠ id) : fz l id = -1 := by
  rcases fz_cases l id with e | ⟨n, e, hn, e2⟩
  · exact e
  · exact absurd e2 (h _ (ob_mem l n hn))
theorem fz_perm {M O : List Ob} {id : ByteArray} (hp : M.Perm O) : fz M id = -1 ↔ fz O id = -1 :=
  ⟨fun h => fz_miss fun o ho => fz_out h o (hp.mem_iff.2 ho), fun h => fz_miss fun o ho => fz_out h o (hp.mem_iff.1 ho)⟩
theorem ids_inj {l : List Ob} (hd : (l.map fun o => o.1).Nodup) {o p : Ob} (ho : o ∈ l) (hp : p ∈ l) (e : o.1 = p.1) : o = p := by
  induction l with
  | nil => cases ho
  | cons x t ih =>
    rw [List.map_cons, List.nodup_cons] at hd
    rcases List.mem_cons.1 ho with ho1 | ho1
    · rcases List.mem_cons.1 hp with hp1 | hp1
      · rw [ho1, hp1]
      · exact absurd (List.mem_map.2 ⟨p, hp1, by rw [← e, ho1]⟩) hd.1
    · rcases List.mem_cons.1 hp with hp1 | hp1
      · exact absurd (List.mem_map.2 ⟨o, ho1, by rw [e, hp1]⟩) hd.1
      · exact ih hd.2 ho1 hp1
theorem pC_perm {M O : List Ob} {k : Int} {d : ByteArray} (hp : M.Perm O) (hd : (O.map fun o => o.1).Nodup) : pC M k d = pC O k d := by
  rcases fz_cases O (idN k d) with e | ⟨m, e, hm, e2⟩
  · have e' := (fz_perm (id := idN k d) hp).2 e
    have hl := hp.length_eq
    by_cases h200 : 200 ≤ O.length
    · rw [(p_full e h200).1, (p_full e' (by omega)).1]
    · rw [(p_new e h200).1, (p_new e' (by omega)).1]
  · rcases fz_cases M (idN k d) with e' | ⟨n, e', hn, e2'⟩
    · have := (fz_perm (id := idN k d) hp).1 e'
      omega
    · have ho := ob_mem O m hm
      have ho' := hp.mem_iff.1 (ob_mem M n hn)
      have es : M.getD n onil = O.getD m onil := ids_inj hd ho' ho (by rw [e2, e2'])
      by_cases ed : (O.getD m onil).2.2 = d
      · rw [(p_same e ed).1, (p_same e' (by rw [es]; exact ed)).1]
      · rw [(p_other e ed).1, (p_other e' (by rw [es]; exact ed)).1]
theorem qL_perm {M O : List Ob} {k : Int} {d : ByteArray} (hp : M.Perm O) : (qL M k d).Perm (qL O k d) := by
  unfold qL
  have hl := hp.length_eq
  by_cases h : fz O (idN k d) = -1 ∧ ¬ 200 ≤ O.length
  · rw [if_pos h, if_pos ⟨(fz_perm hp).2 h.1, by omega⟩]
    exact hp.append_right _
  · rw [if_neg h, if_neg (fun q => h ⟨(fz_perm hp).1 q.1, by omega⟩)]
    exact hp
/-- The objects of the second put into the first, one by one. -/
def mgF : List Ob → List Ob → Int × List Ob
  | out, [] => (0, out)
  | out, o :: t => if pC out o.2.1 o.2.2 = 0 then mgF (pL out o.2.1 o.2.2) t else (pC out o.2.1 o.2.2, [])
theorem mgF_drop {l : List Ob} {i : Nat} (out : List Ob) (h : i < l.length) : mgF out (l.drop i) = if pC out (l.getD i onil).2.1 (l.getD i onil).2.2 = 0 then mgF (pL out (l.getD i onil).2.1 (l.getD i onil).2.2) (l.drop (i + 1)) else (pC out (l.getD i onil).2.1 (l.getD i onil).2.2, []) := by
  rw [ob_drop l i h]; rfl
theorem mgF_end {l : List Ob} {i : Nat} (out : List Ob) (h : ¬ i < l.length) : mgF out (l.drop i) = (0, out) := by
  rw [List.drop_of_length_le (by omega)]; rfl
theorem pL_len {l : List Ob} {k : Int} {d : ByteArray} (h : l.length ≤ 200) (ha : Asc l) : (pL l k d).length ≤ 200 := by
  by_cases e : pC l k d = 0
  · rw [(q_perm ha e).2.length_eq]
    exact q_len h
  · rw [show pL l k d = [] from if_neg e]; simp
theorem mgF_len : ∀ (b a : List Ob), a.length ≤ 200 → Asc a → (mgF a b).2.length ≤ 200
  | [], _, h, _ => h
  | o :: t, a, h, ha => by
    unfold mgF
    split
    · rename_i e
      exact mgF_len t _ (pL_len h ha) (q_perm ha e).1
    · simp
/-- What an object of a store without a fault is. -/
theorem sf_ob {l : List Ob} (h : sf l = 0) (k : Nat) (hk : k < l.length) : inB (l.getD k onil).2.1 1 3 = true ∧ (l.getD k onil).1 = idN (l.getD k onil).2.1 (l.getD k onil).2.2 := by
  have hF := (sf_zero h).2 k hk
  unfold obF at hF
  by_cases e : idK (l.getD k onil).2.1 (l.getD k onil).2.2 = 0
  · rw [if_pos e] at hF
    have hin : inB (l.getD k onil).2.1 1 3 = true ∧ tf (l.getD k onil).2.2 = 0 := by
      unfold idK at e
      cases q : inB (l.getD k onil).2.1 1 3 with
      | false => rw [q] at e; simp at e
      | true => rw [q] at e; exact ⟨rfl, e⟩
    by_cases e2 : idT (l.getD k onil).2.1 (l.getD k onil).2.2 = (l.getD k onil).1
    · refine ⟨hin.1, ?_⟩
      rw [← e2]
      unfold idT
      rw [if_pos hin.1, if_pos hin.2]
    · rw [if_neg e2] at hF; omega
  · rw [if_neg e] at hF; exact absurd hF e
def msR (a b : List Ob) : Int := if sf a = 0 then (if sf b = 0 then (mgF a b).1 else sf b) else sf a
def msL (a b : List Ob) : List Ob := if sf a = 0 ∧ sf b = 0 then (mgF a b).2 else []
theorem ms_a {a b : List Ob} (h : ¬ sf a = 0) : msR a b = sf a ∧ msL a b = [] := ⟨if_neg h, if_neg (fun q => h q.1)⟩
theorem ms_b {a b : List Ob} (h : sf a = 0) (e : ¬ sf b = 0) : msR a b = sf b ∧ msL a b = [] := ⟨by unfold msR; rw [if_pos h, if_neg e], if_neg (fun q => e q.2)⟩
theorem ms_m {a b : List Ob} (h : sf a = 0) (e : sf b = 0) : msR a b = (mgF a b).1 ∧ msL a b = (mgF a b).2 := ⟨by unfold msR; rw [if_pos h, if_pos e], if_pos ⟨h, e⟩⟩
end Go.Proofs.Ytnififnogdekiaa
/- Stores put together: in either order they come to the same, and have what both had. Plain mathematics. No statement is proved here. -/
namespace Go.Proofs.Ytnififnogdekiaa
open Go.RowKit

/-- An object that has no fault of its own. -/
def goodO (o : Ob) : Prop := inB o.2.1 1 3 = true ∧ tf o.2.2 = 0 ∧ o.1 = idN o.2.1 o.2.2
theorem goodO_F {o : Ob} (h : goodO o) : idK o.2.1 o.2.2 = 0 ∧ idT o.2.1 o.2.2 = o.1 := by
  obtain ⟨h1, h2, h3⟩ := h
  refine ⟨by unfold idK; rw [if_pos h1]; exact h2, by unfold idT; rw [if_pos h1, if_pos h2, h3]⟩
theorem getO_mem {l : List Ob} {o : Ob} (h : o ∈ l) : ∃ k, k < l.length ∧ l.getD k onil = o := by
  obtain ⟨k, hk, e⟩ := List.getElem_of_mem h
  exact ⟨k, hk, by simp [List.getD, hk, e]⟩
theorem sf_good {l : List Ob} (h : sf l = 0) : ∀ o ∈ l, goodO o := by
  intro o ho
  obtain ⟨k, hk, rfl⟩ := getO_mem ho
  obtain ⟨h1, h2⟩ := sf_ob h k hk
  have hF := (sf_zero h).2 k hk
  refine ⟨h1, ?_, h2⟩
  unfold obF at hF
  by_cases e : idK (l.getD k onil).2.1 (l.getD k onil).2.2 = 0
  · unfold idK at e; rw [if_pos h1] at e; exact e
  · rw [if_neg e] at hF; exact absurd hF e
theorem sf_of {l : List Ob} (h1 : l.length ≤ 200) (h2 : Asc l) (h3 : ∀ o ∈ l, goodO o) : sf l = 0 := by
  refine sf_ok (by omega) fun j hj => ?_
  have hg := goodO_F (h3 _ (ob_mem l j hj))
  unfold obF
  rw [if_pos hg.1, if_pos hg.2, if_neg]
  rintro ⟨h0, hl⟩
  have hp : ltO (l.getD (j - 1) onil) (l.getD j onil) = true := by
    have := List.pairwise_iff_getElem.1 h2 (j - 1) j (by omega) hj (by omega)
    simpa [List.getD, hj, show j - 1 < l.length by omega] using this
  unfold ltO at hp
  unfold leS at hl
  rw [Bool.or_eq_true] at hl
  rcases hl with hl | hl
  · have := bl_trans _ _ _ hp hl
    rw [bl_irr] at this; cases this
  · rw [beq_iff_eq] at hl
    rw [hl, bl_irr] at hp; cases hp
theorem letN_inj {k j : Int} (hk : inB k 1 3 = true) (hj : inB j 1 3 = true) (h : letN k = letN j) : k = j := by
  have h1 := of_decide_eq_true (p := 1 ≤ k ∧ k ≤ 3) hk
  have h2 := of_decide_eq_true (p := 1 ≤ j ∧ j ≤ 3) hj
  have c1 : k = 1 ∨ k = 2 ∨ k = 3 := by omega
  have c2 : j = 1 ∨ j = 2 ∨ j = 3 := by omega
  rcases c1 with rfl | rfl | rfl <;> rcases c2 with rfl | rfl | rfl <;> first | rfl | (exfalso; revert h; decide)
theorem idN_kind {k j : Int} {d e : ByteArray} (hk : inB k 1 3 = true) (hj : inB j 1 3 = true) (h : idN k d = idN j e) : k = j := by
  refine letN_inj hk hj ?_
  have h' : (idN k d).data.toList = (idN j e).data.toList := by rw [h]
  unfold idN at h'
  simp only [List.cons.injEq] at h'
  exact h'.1
/-- One object with the id of a good one and its data is that one. -/
theorem good_eq {o p : Ob} (ho : goodO o) (hp : goodO p) (h1 : p.1 = o.1) (h2 : p.2.2 = o.2.2) : p = o := by
  obtain ⟨a1, a2, a3⟩ := o
  obtain ⟨b1, b2, b3⟩ := p
  have hk := idN_kind (d := b3) (e := a3) hp.1 ho.1 (by rw [← hp.2.2, ← ho.2.2]; exact h1)
  simp only [] at h1 h2 hk
  rw [h1, h2, hk]
/-- One step: what is put, and what a store without room or with another is. -/
theorem pc_zero {M : List Ob} {o : Ob} (ho : goodO o) (hM : ∀ p ∈ M, goodO p) (hA : Asc M) (h : pC M o.2.1 o.2.2 = 0) : Asc (pL M o.2.1 o.2.2) ∧ (∀ p, p ∈ pL M o.2.1 o.2.2 ↔ p ∈ M ∨ p = o) := by
  have hid := ho.2.2
  rcases fz_cases M (idN o.2.1 o.2.2) with e | ⟨k, e, hk, e2⟩
  · have hr : ¬ 200 ≤ M.length := by
      intro hr
      unfold pC at h
      rw [e, if_neg (by omega), if_pos hr] at h; cases h
    rw [(p_new e hr).2.1]
    have hn : ∀ p ∈ M, p.1 ≠ (idN o.2.1 o.2.2, o.2.1, o.2.2).1 := fz_out e
    have he : (idN o.2.1 o.2.2, o.2.1, o.2.2) = o := by rw [← hid]
    rw [he] at hn ⊢
    refine ⟨insO_asc hA hn, fun p => ?_⟩
    rw [(insO_perm M o).mem_iff, List.mem_append, List.mem_singleton]
  · have hd : (M.getD k onil).2.2 = o.2.2 := by
      unfold pC at h
      rw [e, if_pos (by omega)] at h
      by_cases q : (M.getD ((k : Int)).toNat onil).2.2 = o.2.2
      · simpa using q
      · rw [if_neg q] at h; cases h
    rw [(p_same e hd).2.1]
    refine ⟨hA, fun p => ⟨fun hp => .inl hp, fun hp => ?_⟩⟩
    rcases hp with hp | rfl
    · exact hp
    · have hm := ob_mem M k hk
      rw [good_eq ho (hM _ hm) (by rw [e2, hid]) hd] at hm
      exact hm
theorem mg_some : ∀ (b a L : List Ob), Asc a → (∀ o ∈ a, goodO o) → (∀ o ∈ b, goodO o) → mgF a b = (0, L) → Asc L ∧ ∀ o, o ∈ L ↔ o ∈ a ∨ o ∈ b
  | [], a, L, hA, _, _, h => by
    have e : a = L := by simpa [mgF] using h
    subst e
    exact ⟨hA, fun o => by simp⟩
  | o :: t, a, L, hA, ha, hb, h => by
    unfold mgF at h
    split at h
    · rename_i hc
      have ho := hb o (List.mem_cons_self)
      obtain ⟨q1, q2⟩ := pc_zero ho ha hA hc
      obtain ⟨r1, r2⟩ := mg_some t _ L q1 (fun p hp => by rcases (q2 p).1 hp with h1 | rfl; exact ha p h1; exact ho) (fun p hp => hb p (List.mem_cons_of_mem _ hp)) h
      refine ⟨r1, fun p => ?_⟩
      rw [r2, q2, List.mem_cons]
      constructor
      · rintro ((h1 | h1) | h1)
        · exact .inl h1
        · exact .inr (.inl h1)
        · exact .inr (.inr h1)
      · rintro (h1 | h1 | h1)
        · exact .inl (.inl h1)
        · exact .inl (.inr h1)
        · exact .inr h1
    · rename_i hc
      simp only [Prod.mk.injEq] at h
      exact absurd h.1 hc
theorem nd_len : ∀ (a L : List Ob), a.Nodup → (∀ x ∈ a, x ∈ L) → a.length ≤ L.length
  | [], L, _, _ => Nat.zero_le _
  | x :: t, L, hn, hs => by
    obtain ⟨hx, ht⟩ := List.nodup_cons.1 hn
    have hxL := hs x (List.mem_cons_self)
    obtain ⟨s, r, rfl⟩ := List.append_of_mem hxL
    have := nd_len t (s ++ r) ht (fun y hy => by
      have hne : y ≠ x := fun e => hx (e ▸ hy)
      rcases List.mem_append.1 (hs y (List.mem_cons_of_mem _ hy)) with h1 | h1
      · exact List.mem_append.2 (.inl h1)
      · rcases List.mem_cons.1 h1 with h2 | h2
        · exact absurd h2 hne
        · exact List.mem_append.2 (.inr h2))
    simp only [List.length_append, List.length_cons] at this ⊢
    omega
/-- Where all that is put is of one store that has room, nothing is refused. -/
theorem mg_ok {L : List Ob} (hL : L.length ≤ 200) (hd : (L.map fun o => o.1).Nodup) (hg : ∀ o ∈ L, goodO o) : ∀ (b M : List Ob), Asc M → (∀ o ∈ M, o ∈ L) → (∀ o ∈ b, o ∈ L) → (mgF M b).1 = 0
  | [], M, _, _, _ => rfl
  | o :: t, M, hA, hM, hb => by
    have hoL := hb o (List.mem_cons_self)
    have ho := hg o hoL
    have hc : pC M o.2.1 o.2.2 = 0 := by
      rcases fz_cases M (idN o.2.1 o.2.2) with e | ⟨k, e, hk, e2⟩
      · refine (p_new e ?_).1
        have hn := fz_out e
        have hnm : o ∉ M := fun h => hn o h ho.2.2
        have := nd_len (o :: M) L (List.nodup_cons.2 ⟨hnm, ids_nodup (asc_ids hA)⟩) (fun p hp => by rcases List.mem_cons.1 hp with rfl | h1; exact hoL; exact hM p h1)
        rw [List.length_cons] at this
        omega
      · refine (p_same e ?_).1
        have hm := hM _ (ob_mem M k hk)
        have := ids_inj hd hm hoL (by rw [e2]; exact ho.2.2.symm)
        rw [this]
    unfold mgF
    rw [if_pos hc]
    obtain ⟨q1, q2⟩ := pc_zero ho (fun p hp => hg p (hM p hp)) hA hc
    exact mg_ok hL hd hg t _ q1 (fun p hp => by rcases (q2 p).1 hp with h1 | rfl; exact hM p h1; exact hoL) (fun p hp => hb p (List.mem_cons_of_mem _ hp))
/-- All that FnStoreMerges asks. -/
theorem sm_all {a b : List Ob} (h : msR a b = 0) : sf a = 0 ∧ sf b = 0 ∧ msR b a = 0 ∧ msL b a = msL a b ∧ sf (msL a b) = 0 ∧ (∀ o ∈ b, gt (msL a b) o.2.1 o.1 = some o.2.2) ∧ a.length ≤ (msL a b).length ∧ b.length ≤ (msL a b).length := by
  have ha : sf a = 0 := by
    cases e : decide (sf a = 0) with
    | true => exact of_decide_eq_true e
    | false => have := of_decide_eq_false e; rw [(ms_a this).1] at h; exact absurd h this
  have hb : sf b = 0 := by
    cases e : decide (sf b = 0) with
    | true => exact of_decide_eq_true e
    | false => have := of_decide_eq_false e; rw [(ms_b ha this).1] at h; exact absurd h this
  obtain ⟨m1, m2⟩ := ms_m ha hb
  obtain ⟨n1, n2⟩ := ms_m hb ha
  rw [m1] at h
  rw [n1, n2, m2]
  have la := (sf_zero ha).1
  have lb := (sf_zero hb).1
  have hlen := mgF_len b a (by omega) (asc_of ha)
  obtain ⟨L, hL⟩ : ∃ L, (mgF a b).2 = L := ⟨_, rfl⟩
  have hm : mgF a b = (0, L) := by rw [← hL, ← h]
  rw [hL] at hlen ⊢
  obtain ⟨r1, r2⟩ := mg_some b a L (asc_of ha) (sf_good ha) (sf_good hb) hm
  have hgL : ∀ o ∈ L, goodO o := fun o ho => by
    rcases (r2 o).1 ho with h1 | h1
    · exact sf_good ha o h1
    · exact sf_good hb o h1
  have hok := mg_ok hlen (asc_ids r1) hgL a b (asc_of hb) (fun o ho => (r2 o).2 (.inr ho)) (fun o ho => (r2 o).2 (.inl ho))
  obtain ⟨L', hL'⟩ : ∃ L', (mgF b a).2 = L' := ⟨_, rfl⟩
  have hm' : mgF b a = (0, L') := by rw [← hL', ← hok]
  obtain ⟨s1, s2⟩ := mg_some a b L' (asc_of hb) (sf_good hb) (sf_good ha) hm'
  have hperm : L'.Perm L := (List.perm_ext_iff_of_nodup (ids_nodup (asc_ids s1)) (ids_nodup (asc_ids r1))).2 fun o => by rw [s2, r2]; exact Or.comm
  rw [hL']
  refine ⟨ha, hb, hok, asc_eq hperm s1 r1, sf_of hlen r1 hgL, fun o ho => ?_, ?_, ?_⟩
  · have hoL := (r2 o).2 (.inr ho)
    rcases fz_cases L o.1 with e | ⟨k, e, hk, e2⟩
    · exact absurd rfl (fz_out e o hoL)
    · have := ids_inj (asc_ids r1) (ob_mem L k hk) hoL e2
      rw [gt_yes e (by rw [this]), this]
  · exact nd_len _ _ (ids_nodup (asc_ids (asc_of ha))) (fun o ho => (r2 o).2 (.inl ho))
  · exact nd_len _ _ (ids_nodup (asc_ids (asc_of hb))) (fun o ho => (r2 o).2 (.inr ho))
end Go.Proofs.Ytnififnogdekiaa
/- What is put into a store is got, once. Plain mathematics (of FnStores). No statement is proved here. -/
namespace Go.Proofs.Ytnififnogdekiaa
open Go.RowKit

theorem in_gt {L : List Ob} (hA : Asc L) {o : Ob} (ho : o ∈ L) : ∃ k : Nat, fz L o.1 = k ∧ k < L.length ∧ L.getD k onil = o ∧ gt L o.2.1 o.1 = some o.2.2 := by
  rcases fz_cases L o.1 with e | ⟨k, e, hk, e2⟩
  · exact absurd rfl (fz_out e o ho)
  · have h := ids_inj (asc_ids hA) (ob_mem L k hk) ho e2
    exact ⟨k, e, hk, h, by rw [gt_yes e (by rw [h]), h]⟩
/-- Behind a put that tells no code. -/
theorem st_all {l : List Ob} {k : Int} {d : ByteArray} (h : sf l = 0) (hk : inB k 1 3 = true) (ht : tf d = 0) (hc : pC l k d = 0) :
    sf (pL l k d) = 0 ∧ gt (pL l k d) k (idN k d) = some d ∧ pC (pL l k d) k d = 0 ∧ pL (pL l k d) k d = pL l k d ∧ (∀ o ∈ l, gt (pL l k d) o.2.1 o.1 = some o.2.2) ∧ (idN k d, k, d) ∈ pL l k d := by
  have ho : goodO (idN k d, k, d) := ⟨hk, ht, rfl⟩
  have hg := sf_good h
  obtain ⟨r1, r2⟩ := pc_zero (o := (idN k d, k, d)) ho hg (asc_of h) hc
  have hl := pL_len (k := k) (d := d) (by have := (sf_zero h).1; omega) (asc_of h)
  have hgL : ∀ o ∈ pL l k d, goodO o := fun o q => by
    rcases (r2 o).1 q with q | rfl
    · exact hg o q
    · exact ho
  have hm : (idN k d, k, d) ∈ pL l k d := (r2 _).2 (.inr rfl)
  obtain ⟨n, e1, e2, e3, e4⟩ := in_gt r1 hm
  obtain ⟨s1, s2, _⟩ := p_same (l := pL l k d) (k := k) (d := d) e1 (by rw [e3])
  refine ⟨sf_of hl r1 hgL, e4, s1, s2, fun o q => ?_, hm⟩
  obtain ⟨_, _, _, _, q4⟩ := in_gt r1 ((r2 o).2 (.inl q))
  exact q4
/-- Other data of the same name is refused. -/
theorem st_twin {L : List Ob} {k : Int} {d d' : ByteArray} (hA : Asc L) (hm : (idN k d, k, d) ∈ L) (hi : idN k d' = idN k d) (hd : d' ≠ d) : pC L k d' = 6 := by
  obtain ⟨n, e1, e2, e3, _⟩ := in_gt hA hm
  have e1' : fz L (idN k d') = n := by rw [hi]; exact e1
  unfold pC
  rw [e1', if_pos (by omega), if_neg]
  simp only [Int.toNat_natCast, e3]
  exact fun e => hd e.symm
/-- The first byte one more, the second 131 less: one digest. -/
theorem dig_twin {x y x' y' : UInt8} (r : List UInt8) (hx : x'.toNat = x.toNat + 1) (hy : y'.toNat + 131 = y.toNat) : dig (x' :: y' :: r) = dig (x :: y :: r) := by
  unfold dig
  simp only [List.foldl_cons]
  have h1 := UInt8.toNat_lt x
  have h2 := UInt8.toNat_lt y
  have e : (((7 : Int) * 131 + (x'.toNat : Int)) % 65521 * 131 + (y'.toNat : Int)) % 65521 = ((7 * 131 + (x.toNat : Int)) % 65521 * 131 + (y.toNat : Int)) % 65521 := by omega
  rw [e]
theorem idN_dig {k : Int} {d d' : ByteArray} (h : dig d'.data.toList = dig d.data.toList) : idN k d' = idN k d := by unfold idN; rw [h]
end Go.Proofs.Ytnififnogdekiaa
