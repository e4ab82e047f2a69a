/- The specification of deltas, one after another, makes what the walk makes. No statement is proved here. -/
import Derived.Test.YtaggjnaogmhfpaaDoorRows
import Derived.Test.YtaggjnaogmhfpaaDoorLemQ
import Derived.Test.YtaggjnaogmhfpaaDoorDTabQ
import Derived.Test.YtaggjnaogmhfpaaDoorFlLQ
import Derived.Test.YtaggjnaogmhfpaaDoorFfCQ
import Derived.Test.YtaggjnaogmhfpaaDoorDfMQ
import Derived.Test.YtaggjnaogmhfpaaDoorDfBQ
import Derived.Test.YtaggjnaogmhfpaaDoorDfPQ
import Derived.Test.YtaggjnaogmhfpaaDoorDfJQ
import Derived.Test.YtaggjnaogmhfpaaDoorDlLQ
import Derived.Test.YtaggjnaogmhfpaaDoorApMQ
import Derived.WalkKit
import Derived.ProofKit
import Derived.Below
import Derived.Test.YtaggjnaogmhfpaaDoorInQ
import Derived.Test.YtaggjnaogmhfpaaDoorFlAQ
import Derived.Test.YtaggjnaogmhfpaaDoorApAQ
import Derived.Test.YtaggjnaogmhfpaaDoorApRQ
import Derived.WalkSpells
import Derived.Deep.QuietTactic
import Derived.BigQuiet
import Derived.Deep.RegionWith
import Derived.Deep.RegionHeld
import Derived.Deep.RegionLaw
import Derived.Deep.CutRange
import Derived.Maps.AppendAt
import Derived.Laws.BitsLemmas
import Derived.Laws.Cover1
namespace Go.Proofs.YtaggjnaogmhfpaaDoor.Fl
open Go.ChangeShapes Go.WideShapes Go.ChangeAt Go.RowKit

/-- What is at a path behind deltas. -/
def mfa (l : List Ob) (ds : List (ByteArray × Ob × Ob)) (p : ByteArray) : Ob := match ds.find? (fun d => decide (d.1 = p)) with
  | some d => d.2.2
  | none => fa l p
theorem mfa_nil (l : List Ob) (p : ByteArray) : mfa l [] p = fa l p := rfl
theorem mfa_snoc {l : List Ob} {ds : List (ByteArray × Ob × Ob)} {d : ByteArray × Ob × Ob} (hd : ∀ x ∈ ds, plt x.1 d.1) (p : ByteArray) : mfa l (ds ++ [d]) p = if p = d.1 then d.2.2 else mfa l ds p := by
  unfold mfa
  rw [List.find?_append]
  by_cases hp : p = d.1
  · rw [if_pos hp, List.find?_eq_none.2 (fun x hx => by
      have := hd x hx
      simp only [decide_eq_true_eq]
      intro e
      rw [e, hp] at this
      exact plt_irr _ this)]
    have : decide (d.1 = p) = true := by rw [hp]; simp
    simp [List.find?, this]
  · rw [if_neg hp]
    have : decide (d.1 = p) = false := by simpa using fun e => hp e.symm
    simp [List.find?, this]
theorem fb_mfa {l : List Ob} {ds : List (ByteArray × Ob × Ob)} (hr : Rise l) (nl : ∀ f ∈ l, ¬ f = onil) (hd : ds.Pairwise (fun x y => plt x.1 y.1)) (hf : ∀ d ∈ ds, fa l d.1 = d.2.1 ∧ (¬ d.2.2 = onil → d.2.2.1 = d.1)) (p : ByteArray) : fa (fb l ds) p = mfa l ds p := by
  obtain ⟨_, _, _, h⟩ := fb_all ds l hr nl hd hf
  unfold mfa
  cases e : ds.find? (fun d => decide (d.1 = p)) with
  | none => exact (h p).2 fun d hx k => by have := List.find?_eq_none.1 e d hx; simp [k] at this
  | some d => exact (h p).1 d (List.mem_of_find?_eq_some e) (by simpa using List.find?_some e)
/-- One delta of the specification. -/
theorem sp_step {S cur : List Ob} {d : ByteArray × Ob × Ob} (hp : S.Perm (put1 cur d)) (hs : Sd S) (hr : Rise cur) (nl : ∀ f ∈ cur, ¬ f = onil) (hd : ¬ d.2.2 = onil → d.2.2.1 = d.1) :
    Rise S ∧ (∀ f ∈ S, ¬ f = onil) ∧ ∀ p, fa S p = if p = d.1 then d.2.2 else fa cur p := by
  have hD := put1_dif (rise_dif hr) hd
  have hDS : Dif S := (hp.map _).nodup_iff.2 hD
  refine ⟨sd_rise hs hDS, fun f hf => ?_, fun p => by rw [fa_perm hp hDS, fa_put1 hd]⟩
  rcases List.mem_append.1 (show f ∈ put1 cur d from hp.mem_iff.1 hf) with q | q
  · exact nl f (List.mem_filter.1 q).1
  · split at q
    · cases q
    · rename_i n
      rw [List.mem_singleton.1 q]; exact n
/-- The specification's answer is the walk's. -/
theorem sp_end {S l : List Ob} {ds : List (ByteArray × Ob × Ob)} (hr : Rise l) (nl : ∀ f ∈ l, ¬ f = onil) (hd : ds.Pairwise (fun x y => plt x.1 y.1)) (hf : ∀ d ∈ ds, fa l d.1 = d.2.1 ∧ (¬ d.2.2 = onil → d.2.2.1 = d.1)) (h1 : Rise S) (h2 : ∀ f ∈ S, ¬ f = onil) (h3 : ∀ p, fa S p = mfa l ds p) : S = fb l ds := by
  obtain ⟨k1, k2, _, _⟩ := fb_all ds l hr nl hd hf
  exact rise_one h1 k1 h2 k2 fun p => by rw [h3, fb_mfa hr nl hd hf]
end Go.Proofs.YtaggjnaogmhfpaaDoor.Fl
/- The walk of the specification of deltas: what stands behind k of them. No statement is proved here. -/
set_option linter.unusedVariables false
namespace Go.Proofs.YtaggjnaogmhfpaaDoor.Fl
open Go.ChangeShapes Go.WideShapes Go.ChangeAt Go.RowKit

structure AI (la : List Ob) (D : List Dl.Ob) (L : List Ob) (k : Nat) : Prop where
  rise : Rise L
  some : ∀ f ∈ L, ¬ f = onil
  at_ : ∀ p, fa L p = mfa la (D.take k) p
  len : L.length ≤ la.length + k
theorem AI.zero {la : List Ob} {D : List Dl.Ob} (hr : Rise la) (nl : ∀ f ∈ la, ¬ f = onil) : AI la D la 0 := ⟨hr, nl, fun p => by rw [List.take_zero, mfa_nil], Nat.le_refl _⟩
theorem AI.step {la : List Ob} {D : List Dl.Ob} {L S : List Ob} {k : Nat} (h : AI la D L k) (hd : D.Pairwise (fun x y => plt x.1 y.1)) (hf : ∀ d ∈ D, ¬ d.2.2 = onil → d.2.2.1 = d.1) (hk : k < D.length)
    (hp : S.Perm (put1 L (D.getD k Dl.onil))) (hs : Sd S) : AI la D S (k + 1) := by
  have eg : D.getD k Dl.onil = D[k] := by simp [List.getD, hk]
  have hm : D.getD k Dl.onil ∈ D := by rw [eg]; exact List.getElem_mem _
  obtain ⟨h1, h2, h3⟩ := sp_step hp hs h.rise h.some (hf _ hm)
  have et : D.take (k + 1) = D.take k ++ [D.getD k Dl.onil] := by rw [eg, List.take_append_getElem hk]
  refine ⟨h1, h2, fun p => ?_, ?_⟩
  · rw [h3, et, mfa_snoc (fun x hx => ?_), h.at_]
    obtain ⟨j, hj, rfl⟩ := List.getElem_of_mem hx
    rw [List.length_take] at hj
    rw [List.getElem_take, eg]
    exact List.pairwise_iff_getElem.1 hd j k (by omega) hk (by omega)
  · have := h.len
    have e := hp.length_eq
    have h4 : (L.filter (fun f => decide (¬ f.1 = (D.getD k Dl.onil).1))).length ≤ L.length := List.length_filter_le _ _
    unfold put1 at e
    rw [List.length_append] at e
    have h5 : (if (D.getD k Dl.onil).2.2 = onil then [] else [(D.getD k Dl.onil).2.2]).length ≤ 1 := by split <;> simp
    omega
theorem AI.stop {la : List Ob} {D : List Dl.Ob} {L : List Ob} (h : AI la D L D.length) (hr : Rise la) (nl : ∀ f ∈ la, ¬ f = onil) (hd : D.Pairwise (fun x y => plt x.1 y.1)) (hf : ∀ d ∈ D, fa la d.1 = d.2.1 ∧ (¬ d.2.2 = onil → d.2.2.1 = d.1)) : L = fb la D :=
  sp_end hr nl hd hf h.rise h.some (fun p => by rw [h.at_, List.take_length])
/-- The files of other paths, among the first. -/
def kp (L : List Ob) (p : ByteArray) (j : Nat) : List Ob := (L.take j).filter (fun f => decide (¬ f.1 = p))
theorem kp_zero (L : List Ob) (p : ByteArray) : kp L p 0 = [] := by unfold kp; rw [List.take_zero]; rfl
theorem kp_at {L : List Ob} {p : ByteArray} {j : Nat} (hj : j < L.length) : kp L p (j + 1) = kp L p j ++ (if (L.getD j onil).1 = p then [] else [L.getD j onil]) := by
  unfold kp
  rw [ob_take L j hj, List.filter_append]
  congr 1
  by_cases h : (L.getD j onil).1 = p
  · rw [if_pos h, List.filter_cons_of_neg (by simpa using h)]; rfl
  · rw [if_neg h, List.filter_cons_of_pos (by simpa using h)]; rfl
theorem kp_len (L : List Ob) (p : ByteArray) (j : Nat) : (kp L p j).length ≤ L.length := by
  unfold kp
  refine Nat.le_trans (List.length_filter_le _ _) ?_
  rw [List.length_take]; omega
theorem kp_put (L : List Ob) (d : Dl.Ob) : put1 L d = kp L d.1 L.length ++ (if d.2.2 = onil then [] else [d.2.2]) := by unfold put1 kp; rw [List.take_length]
end Go.Proofs.YtaggjnaogmhfpaaDoor.Fl
