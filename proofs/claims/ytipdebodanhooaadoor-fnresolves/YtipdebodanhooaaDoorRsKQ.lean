/- Sides changed twice, a path resolved and all others kept: the mathematics of an index. No statement is proved here. -/
import Derived.Test.YtipdebodanhooaaDoorRows
import Derived.Test.YtipdebodanhooaaDoorLemQ
import Derived.Test.YtipdebodanhooaaDoorLFLemQ
import Derived.Test.YtipdebodanhooaaDoorDTabQ
import Derived.Test.YtipdebodanhooaaDoorHkTQ
import Derived.Test.YtipdebodanhooaaDoorIdLQ
import Derived.Test.YtipdebodanhooaaDoorFlLQ
import Derived.Test.YtipdebodanhooaaDoorEnLQ
import Derived.Test.YtipdebodanhooaaDoorIxMQ
import Derived.Test.YtipdebodanhooaaDoorIxNQ
import Derived.Test.YtipdebodanhooaaDoorSlBQ
import Derived.Test.YtipdebodanhooaaDoorCpKQ
import Derived.Test.YtipdebodanhooaaDoorInEQ
import Derived.Test.YtipdebodanhooaaDoorSwMQ
import Derived.Test.YtipdebodanhooaaDoorSsBQ
import Derived.Test.YtipdebodanhooaaDoorSgCQ
set_option linter.unusedVariables false
namespace Go.Proofs.YtipdebodanhooaaDoor.En
open Go.RowKit
/-- Two rising lists of the same members are one list. -/
theorem pw_ext {α : Type} {R : α → α → Prop} (irr : ∀ a, ¬ R a a) (tr : ∀ a b c, R a b → R b c → R a c) : ∀ l m : List α, l.Pairwise R → m.Pairwise R → (∀ x, x ∈ l ↔ x ∈ m) → l = m
  | [], [], _, _, _ => rfl
  | [], b :: m, _, _, h => absurd ((h b).2 (by simp)) (by simp)
  | a :: l, [], _, _, h => absurd ((h a).1 (by simp)) (by simp)
  | a :: l, b :: m, hl, hm, h => by
    obtain ⟨la, lp⟩ := List.pairwise_cons.1 hl
    obtain ⟨mb, mp⟩ := List.pairwise_cons.1 hm
    have e : a = b := by
      rcases List.mem_cons.1 ((h a).1 (by simp)) with q | q
      · exact q
      · rcases List.mem_cons.1 ((h b).2 (by simp)) with r | r
        · exact r.symm
        · exact absurd (tr _ _ _ (la b r) (mb a q)) (irr a)
    subst e
    rw [pw_ext irr tr l m lp mp (fun x => ?_)]
    constructor
    · intro hx
      rcases List.mem_cons.1 ((h x).1 (List.mem_cons_of_mem _ hx)) with q | q
      · exact absurd (q ▸ la x hx) (irr a)
      · exact q
    · intro hx
      rcases List.mem_cons.1 ((h x).2 (List.mem_cons_of_mem _ hx)) with q | q
      · exact absurd (q ▸ mb x hx) (irr a)
      · exact q
theorem swI_swI (s : Int) : swI (swI s) = s := by
  unfold swI
  by_cases e2 : s = 2
  · rw [if_pos e2, if_neg (by omega), if_pos rfl, e2]
  · rw [if_neg e2]
    by_cases e3 : s = 3
    · rw [if_pos e3, if_pos rfl, e3]
    · rw [if_neg e3, if_neg e2, if_neg e3]
theorem sw1_sw1 (e : Ob) : sw1 (sw1 e) = e := by
  obtain ⟨a, s, m, i⟩ := e
  show (a, swI (swI s), m, i) = (a, s, m, i)
  rw [swI_swI]
theorem swK_memI (l : List Ob) : ∀ k x, x ∈ swK l k ↔ ∃ j, j < k ∧ x = sw1 (l.getD j onil)
  | 0, x => ⟨fun h => (by cases h), fun h => (by obtain ⟨j, hj, _⟩ := h; exact absurd hj (Nat.not_lt_zero _))⟩
  | k + 1, x => by
    rw [swK, insL_mem, swK_memI l k]
    constructor
    · rintro (⟨j, hj, e⟩ | e)
      · exact ⟨j, by omega, e⟩
      · exact ⟨k, by omega, e⟩
    · rintro ⟨j, hj, e⟩
      by_cases q : j = k
      · rw [q] at e; exact .inr e
      · exact .inl ⟨j, by omega, e⟩
theorem sw_all (l : List Ob) (x : Ob) : x ∈ swK l l.length ↔ ∃ e ∈ l, x = sw1 e := by
  rw [swK_memI]
  constructor
  · rintro ⟨j, hj, e⟩
    exact ⟨_, by rw [getD_el _ _ hj]; exact List.getElem_mem hj, e⟩
  · rintro ⟨e, he, q⟩
    obtain ⟨j, hj, rfl⟩ := List.getElem_of_mem he
    exact ⟨j, hj, by rw [getD_el _ _ hj]; exact q⟩
theorem swI_in {s : Int} (h : inB s 0 3 = true) : inB (swI s) 0 3 = true := by
  unfold inB at h ⊢
  have q := of_decide_eq_true h
  refine decide_eq_true ?_
  unfold swI
  split
  · omega
  · split <;> omega
theorem ei_sw {e : Ob} (h : eiO e = 0) : eiO (sw1 e) = 0 := by
  obtain ⟨h0, h1, h2, h3⟩ := ei_zero h
  exact ei_ok h0 (by show (inB (swI e.2.1) 0 3 && inB e.2.2.1 1 2) = true; rw [swI_in h1, h2]; rfl) h3
/-- The sides of an index without a fault, changed: it has none either. -/
theorem sw_ix {l : List Ob} (h : ixf l = 0) : ixf (swK l l.length) = 0 := by
  refine ix_of (by rw [swK_len]; exact (ixf_zero h).1) ?_ (sw_rise h _ (Nat.le_refl _)) ?_
  · intro e he
    obtain ⟨x, hx, rfl⟩ := (sw_all l e).1 he
    exact ei_sw (ix_ei h hx)
  · intro e he f hf hp h0
    obtain ⟨x, hx, rfl⟩ := (sw_all l e).1 he
    obtain ⟨y, hy, rfl⟩ := (sw_all l f).1 hf
    have hx0 : x.2.1 = 0 := by
      have q := swI_swI x.2.1
      rw [show swI x.2.1 = 0 from h0] at q
      exact q.symm
    rw [ix_mixM h hx hy hp hx0]
theorem cmE_tr (a b c : Ob) (h1 : cmE a b < 0) (h2 : cmE b c < 0) : cmE a c < 0 := cmE_trans h1 h2
/-- Changed twice, they are as they were. -/
theorem sw_sw {l : List Ob} (h : ixf l = 0) : swK (swK l l.length) (swK l l.length).length = l := by
  refine pw_ext (R := fun a b => cmE a b < 0) cmE_self cmE_tr _ _ (rise_iff.1 (sw_rise (sw_ix h) _ (Nat.le_refl _))) (rise_iff.1 (ix_rise h)) (fun x => ?_)
  rw [sw_all]
  constructor
  · rintro ⟨e, he, rfl⟩
    obtain ⟨y, hy, rfl⟩ := (sw_all l e).1 he
    rw [sw1_sw1]; exact hy
  · intro hx
    exact ⟨sw1 x, (sw_all l _).2 ⟨x, hx, rfl⟩, (sw1_sw1 x).symm⟩
/-- What goes with one text of a list that rises. -/
theorem len_drop {α : Type} [DecidableEq α] {R : α → α → Prop} (irr : ∀ a, ¬ R a a) {p : α} : ∀ l : List α, l.Pairwise R → p ∈ l → (l.filter fun x => decide (¬ x = p)).length + 1 = l.length
  | [], _, h => by cases h
  | a :: t, hl, h => by
    obtain ⟨la, lp⟩ := List.pairwise_cons.1 hl
    by_cases e : a = p
    · subst e
      have ht : t.filter (fun x => decide (¬ x = a)) = t := List.filter_eq_self.2 fun x hx => decide_eq_true fun q => irr a (q ▸ la x hx)
      rw [List.filter_cons_of_neg (by simp), ht, List.length_cons]
    · rcases List.mem_cons.1 h with q | q
      · exact absurd q.symm e
      · rw [List.filter_cons_of_pos (by simpa using e), List.length_cons, List.length_cons, len_drop irr t lp q]
theorem srt_pw {c : List ByteArray} (h : Srt c) : c.Pairwise (fun a b => cmB a b < 0) := by
  rw [List.pairwise_iff_getElem]
  intro i j hi hj hij
  have := h i j hij hj
  rwa [getD_at c i hi, getD_at c j hj] at this
theorem cmB_irr (a : ByteArray) : ¬ cmB a a < 0 := fun h => by rw [cmB_zero.2 rfl] at h; omega
theorem cmB_tr (a b c : ByteArray) (h1 : cmB a b < 0) (h2 : cmB b c < 0) : cmB a c < 0 := cmB_trans h1 h2
theorem rs_cl {l : List Ob} {p : ByteArray} {m : Int} {i : ByteArray} (h : ixf l = 0) (h2 : ixf (rsU l p m i) = 0) : cl (rsU l p m i) = (cl l).filter fun x => decide (¬ x = p) := by
  refine pw_ext (R := fun a b => cmB a b < 0) cmB_irr cmB_tr _ _ (srt_pw (cl_srt h2)) ((srt_pw (cl_srt h)).sublist List.filter_sublist) (fun q => ?_)
  rw [← hasB_mem, List.mem_filter, ← hasB_mem, has_cl, has_cl, decide_eq_true_eq]
  constructor
  · rintro ⟨e, he, h0, h1⟩
    rcases rsU_mem.1 he with ⟨r, r2⟩ | ⟨_, rfl⟩
    · exact ⟨⟨e, r, h0, h1⟩, by rw [← h1]; exact r2⟩
    · exact absurd rfl h0
  · rintro ⟨⟨e, he, h0, h1⟩, hq⟩
    exact ⟨e, rsU_mem.2 (.inl ⟨he, by rw [h1]; exact hq⟩), h0, h1⟩
theorem rs_one {l : List Ob} {p : ByteArray} {m : Int} {i : ByteArray} (h : ixf l = 0) (h2 : ixf (rsU l p m i) = 0) (hb : hasB (cl l) p = true) : (cl (rsU l p m i)).length + 1 = (cl l).length := by
  rw [rs_cl h h2]
  exact len_drop cmB_irr _ (srt_pw (cl_srt h)) (hasB_mem.1 hb)
/-- The files of a stage, those of a path left out. -/
def offF (p : ByteArray) (o : Fl.Ob) : Bool := !(o.1.toList == p.toList)
theorem offF_yes {p : ByteArray} {o : Fl.Ob} (h : ¬ o.1 = p) : offF p o = true := by unfold offF; rw [beq_bytes_false h]; rfl
theorem offF_no {p : ByteArray} {o : Fl.Ob} (h : o.1 = p) : offF p o = false := by unfold offF; rw [beq_bytes_true h]; rfl
theorem stg_off (l : List Ob) (s : Int) (p : ByteArray) : (stg l s).filter (offF p) = stg (rsF l p) s := by
  unfold stg rsF
  rw [List.filter_map, List.filter_filter, List.filter_filter]
  congr 1
  refine List.filter_congr fun o _ => ?_
  show (offF p (fil o) && (o.2.1 == s)) = ((o.2.1 == s) && offP p o)
  rw [Bool.and_comm]; rfl
theorem rsF_ins {X : List Ob} {q : Nat} {p : ByteArray} {s m : Int} {i : ByteArray} : rsF (insL X q (p, s, m, i)) p = rsF X p := by
  have hX : X = X.take q ++ X.drop q := (List.take_append_drop q X).symm
  have h1 : rsF (insL X q (p, s, m, i)) p = rsF (X.take q) p ++ rsF (X.drop q) p := by
    unfold insL rsF
    rw [List.filter_append, List.filter_append, List.filter_cons_of_neg (by rw [show offP p (p, s, m, i) = false from offP_no rfl]; decide), List.filter_nil, List.nil_append]
  rw [h1]
  conv => rhs; rw [hX]
  unfold rsF
  rw [List.filter_append]
theorem rsF_twice (l : List Ob) (p : ByteArray) : rsF (rsF l p) p = rsF l p := by
  unfold rsF
  rw [List.filter_filter]
  exact List.filter_congr fun o _ => Bool.and_self _
theorem rsF_rsU (l : List Ob) (p : ByteArray) (m : Int) (i : ByteArray) : rsF (rsU l p m i) p = rsF l p := by
  unfold rsU
  split
  · exact rsF_twice l p
  · rw [rsF_ins]; exact rsF_twice l p
theorem rs_stay (l : List Ob) (p : ByteArray) (m : Int) (i : ByteArray) (s : Int) : (stg l s).filter (offF p) = (stg (rsU l p m i) s).filter (offF p) := by
  rw [stg_off, stg_off, rsF_rsU]
/-- All that FnResolves asks where a path is resolved. -/
theorem rs_all {l : List Ob} {p : ByteArray} {m : Int} {i : ByteArray} (h : rsC l p m i = 0) : ixf l = 0 ∧ rsL l p m i = rsU l p m i ∧ ixf (rsU l p m i) = 0 ∧ hasB (cl (rsU l p m i)) p = false ∧ (cl (rsU l p m i)).length + 1 = (cl l).length ∧ ∀ s, (stg l s).filter (offF p) = (stg (rsU l p m i) s).filter (offF p) := by
  have h1 : ixf l = 0 := by
    unfold rsC at h
    split at h
    · assumption
    · rename_i q; exact absurd h q
  have h2 : hasB (cl l) p = true := by
    cases hb : hasB (cl l) p with
    | true => rfl
    | false => rw [(rs_none h1 hb).1] at h; omega
  have h3 : m = 0 ∨ inB m 1 2 = true := Decidable.byContradiction fun q => by
    rw [(rs_mode h1 h2 q).1] at h; omega
  have h4 : rsI m i = true := by
    cases hb : rsI m i with
    | true => rfl
    | false => rw [(rs_form h1 h2 h3 hb).1] at h; omega
  obtain ⟨e, he, _, h5⟩ := has_cl.1 h2
  have h6 := rs_ix h1 he h5 h3 h4
  exact ⟨h1, (rs_ok h1 h2 h3 h4).2, h6, has_rs_no, rs_one h1 h6 h2, fun s => rs_stay l p m i s⟩
end Go.Proofs.YtipdebodanhooaaDoor.En
