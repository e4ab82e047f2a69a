/- The specification of deltas, one after another, makes what the walk makes. No statement is proved here. -/
import Derived.Test.YtkgcpndnlefkoaaGreatDoorRows
import Derived.Test.YtkgcpndnlefkoaaGreatDoorLemQ
import Derived.Test.YtkgcpndnlefkoaaGreatDoorDTabQ
import Derived.Test.YtkgcpndnlefkoaaGreatDoorInQ
import Derived.Test.YtkgcpndnlefkoaaGreatDoorFfCQ
import Derived.Test.YtkgcpndnlefkoaaGreatDoorDfMQ
import Derived.Test.YtkgcpndnlefkoaaGreatDoorDfBQ
import Derived.Test.YtkgcpndnlefkoaaGreatDoorDfPQ
import Derived.Test.YtkgcpndnlefkoaaGreatDoorDlLQ
import Derived.Test.YtkgcpndnlefkoaaGreatDoorApMQ
import Derived.WalkKit
import Derived.ProofKit
import Derived.Below
import Derived.Test.YtkgcpndnlefkoaaGreatDoorLFLemQ
import Derived.Test.YtkgcpndnlefkoaaGreatDoorDfGQ
namespace Go.Proofs.YtkgcpndnlefkoaaGreatDoor.Fl
open Go.ChangeShapes Go.WideShapes Go.ChangeAt Go.RowKit

/-- What is at a path behind deltas. -/
def mfa (l : List Ob) (ds : List (ByteArray × Ob × Ob)) (p : ByteArray) : Ob := match ds.find? (fun d => decide (d.1 = p)) with
  | some d => d.2.2
  | none => fa l p
theorem mfa_nil (l : List Ob) (p : ByteArray) : mfa l [] p = fa l p := rfl
theorem mfa_snoc {l : List Ob} {ds : List (ByteArray × Ob × Ob)} {d : ByteArray × Ob × Ob} (hd : ∀ x ∈ ds, plt x.1 d.1) (p : ByteArray) : mfa l (ds ++ [d]) p = if p = d.1 then d.2.2 else mfa l ds p := by
  unfold mfa
  rw [List.find?_append]
  by_cases hp : p = d.1
  · rw [if_pos hp, List.find?_eq_none.2 (fun x hx => by
      have := hd x hx
      simp only [decide_eq_true_eq]
      intro e
      rw [e, hp] at this
      exact plt_irr _ this)]
    have : decide (d.1 = p) = true := by rw [hp]; simp
    simp [List.find?, this]
  · rw [if_neg hp]
    have : decide (d.1 = p) = false := by simpa using fun e => hp e.symm
    simp [List.find?, this]
theorem fb_mfa {l : List Ob} {ds : List (ByteArray × Ob × Ob)} (hr : Rise l) (nl : ∀ f ∈ l, ¬ f = onil) (hd : ds.Pairwise (fun x y => plt x.1 y.1)) (hf : ∀ d ∈ ds, fa l d.1 = d.2.1 ∧ (¬ d.2.2 = onil → d.2.2.1 = d.1)) (p : ByteArray) : fa (fb l ds) p = mfa l ds p := by
  obtain ⟨_, _, _, h⟩ := fb_all ds l hr nl hd hf
  unfold mfa
  cases e : ds.find? (fun d => decide (d.1 = p)) with
  | none => exact (h p).2 fun d hx k => by have := List.find?_eq_none.1 e d hx; simp [k] at this
  | some d => exact (h p).1 d (List.mem_of_find?_eq_some e) (by simpa using List.find?_some e)
/-- One delta of the specification. -/
theorem sp_step {S cur : List Ob} {d : ByteArray × Ob × Ob} (hp : S.Perm (put1 cur d)) (hs : Sd S) (hr : Rise cur) (nl : ∀ f ∈ cur, ¬ f = onil) (hd : ¬ d.2.2 = onil → d.2.2.1 = d.1) :
    Rise S ∧ (∀ f ∈ S, ¬ f = onil) ∧ ∀ p, fa S p = if p = d.1 then d.2.2 else fa cur p := by
  have hD := put1_dif (rise_dif hr) hd
  have hDS : Dif S := (hp.map _).nodup_iff.2 hD
  refine ⟨sd_rise hs hDS, fun f hf => ?_, fun p => by rw [fa_perm hp hDS, fa_put1 hd]⟩
  rcases List.mem_append.1 (show f ∈ put1 cur d from hp.mem_iff.1 hf) with q | q
  · exact nl f (List.mem_filter.1 q).1
  · split at q
    · cases q
    · rename_i n
      rw [List.mem_singleton.1 q]; exact n
/-- The specification's answer is the walk's. -/
theorem sp_end {S l : List Ob} {ds : List (ByteArray × Ob × Ob)} (hr : Rise l) (nl : ∀ f ∈ l, ¬ f = onil) (hd : ds.Pairwise (fun x y => plt x.1 y.1)) (hf : ∀ d ∈ ds, fa l d.1 = d.2.1 ∧ (¬ d.2.2 = onil → d.2.2.1 = d.1)) (h1 : Rise S) (h2 : ∀ f ∈ S, ¬ f = onil) (h3 : ∀ p, fa S p = mfa l ds p) : S = fb l ds := by
  obtain ⟨k1, k2, _, _⟩ := fb_all ds l hr nl hd hf
  exact rise_one h1 k1 h2 k2 fun p => by rw [h3, fb_mfa hr nl hd hf]
end Go.Proofs.YtkgcpndnlefkoaaGreatDoor.Fl
/- What ApplyDeltas answers, by mathematics: its code, its files; the walk of filesBehind step by step. No statement is proved here. -/
namespace Go.Proofs.YtkgcpndnlefkoaaGreatDoor.Fl
open Go.ChangeShapes Go.WideShapes Go.ChangeAt Go.RowKit

theorem fi_zero (x0 x2 : ByteArray) : ¬ fi x0 0 x2 = 0 := by
  by_cases h : pf x0 = 0
  · rw [fi_mode h (by decide)]; decide
  · rw [fi_path h]; exact h
theorem ffl_some {l : List Ob} (h : ffl l = 0) : ∀ f ∈ l, ¬ f = onil := fun f hf e => by
  obtain ⟨k, hk, rfl⟩ := List.getElem_of_mem hf
  have hF := (ffl_each h).2 k hk
  have eg : l.getD k onil = l[k] := by simp [List.getD, hk]
  unfold fiF at hF
  rw [eg, e] at hF
  have hz : ¬ fi onil.1 onil.2.1 onil.2.2 = 0 := fi_zero _ _
  rw [if_neg hz] at hF
  exact hz hF
theorem leF_yes {a b : ByteArray} (h : plt b a) : leF a b = false := by
  unfold leF
  rw [plt_no.2 (plt_as h), Bool.false_or]
  exact beq_bytes_false (fun e => by subst e; exact plt_irr _ h)
theorem eqBytes {a b : ByteArray} (h : (a.toList == b.toList) = true) : a = b := by
  by_cases e : a = b
  · exact e
  · rw [beq_bytes_false e] at h; cases h
/-- The code of the delta at a place. -/
def apD (la : List Ob) (D : List Dl.Ob) (k : Nat) : Int :=
  if 0 < k ∧ leF (D.getD k Dl.onil).1 (D.getD (k - 1) Dl.onil).1 = true then 1 else
  if isD (D.getD k Dl.onil).1 (D.getD k Dl.onil).2.1 (D.getD k Dl.onil).2.2 = false then 1 else
  if fa la (D.getD k Dl.onil).1 = (D.getD k Dl.onil).2.1 then 0 else 6
def apE (la : List Ob) (D : List Dl.Ob) : Int := (((List.range D.length).map (apD la D)).find? (fun x => decide (x ≠ 0))).getD 0
theorem apE_bad {la : List Ob} {D : List Dl.Ob} {k : Nat} (hk : k < D.length) (h0 : ∀ j, j < k → apD la D j = 0) (hb : ¬ apD la D k = 0) : apE la D = apD la D k := by
  unfold apE
  have : ((List.range D.length).map (apD la D)).find? (fun x => decide (x ≠ 0)) = some (apD la D k) := by
    rw [List.find?_eq_some_iff_getElem]
    refine ⟨by simp [hb], k, by simp [hk], by simp, fun j hj => ?_⟩
    simp [h0 j hj]
  rw [this]; rfl
theorem apE_ok {la : List Ob} {D : List Dl.Ob} (h0 : ∀ j, j < D.length → apD la D j = 0) : apE la D = 0 := by
  unfold apE
  have : ((List.range D.length).map (apD la D)).find? (fun x => decide (x ≠ 0)) = none := by
    rw [List.find?_eq_none]
    intro x hx
    obtain ⟨j, hj, rfl⟩ := List.mem_map.1 hx
    simp [h0 j (List.mem_range.1 hj)]
  rw [this]; rfl
theorem apD_rise {la : List Ob} {D : List Dl.Ob} {k : Nat} (h0 : 0 < k) (h : leF (D.getD k Dl.onil).1 (D.getD (k - 1) Dl.onil).1 = true) : apD la D k = 1 := if_pos ⟨h0, h⟩
theorem apD_form {la : List Ob} {D : List Dl.Ob} {k : Nat} (h : isD (D.getD k Dl.onil).1 (D.getD k Dl.onil).2.1 (D.getD k Dl.onil).2.2 = false) : apD la D k = 1 := by
  unfold apD; rw [if_pos h]; split <;> rfl
theorem apD_hold {la : List Ob} {D : List Dl.Ob} {k : Nat} (h0 : ¬ (0 < k ∧ leF (D.getD k Dl.onil).1 (D.getD (k - 1) Dl.onil).1 = true)) (h : isD (D.getD k Dl.onil).1 (D.getD k Dl.onil).2.1 (D.getD k Dl.onil).2.2 = true) :
    apD la D k = if fa la (D.getD k Dl.onil).1 = (D.getD k Dl.onil).2.1 then 0 else 6 := by
  unfold apD; rw [if_neg h0, if_neg (by rw [h]; decide)]
/-- What stands when no delta has a code. -/
theorem apD_all {la : List Ob} {D : List Dl.Ob} (h : ∀ j, j < D.length → apD la D j = 0) :
    D.Pairwise (fun x y => plt x.1 y.1) ∧ ∀ d ∈ D, fa la d.1 = d.2.1 ∧ (¬ d.2.2 = onil → d.2.2.1 = d.1) := by
  have each : ∀ k, k < D.length → (0 < k → plt (D.getD (k - 1) Dl.onil).1 (D.getD k Dl.onil).1) ∧ isD (D.getD k Dl.onil).1 (D.getD k Dl.onil).2.1 (D.getD k Dl.onil).2.2 = true ∧ fa la (D.getD k Dl.onil).1 = (D.getD k Dl.onil).2.1 := fun k hk => by
    have q := h k hk
    unfold apD at q
    split at q
    · exact absurd q (by decide)
    · rename_i n1
      split at q
      · exact absurd q (by decide)
      · rename_i n2
        split at q
        · rename_i n3
          refine ⟨fun k0 => ?_, by simpa using n2, n3⟩
          refine leF_no ?_
          cases c : leF (D.getD k Dl.onil).1 (D.getD (k - 1) Dl.onil).1 with
          | false => rfl
          | true => exact absurd ⟨k0, c⟩ n1
        · exact absurd q (by decide)
  constructor
  · rw [List.pairwise_iff_getElem]
    intro i j hi hj hij
    have key : ∀ j, i < j → j < D.length → plt (D.getD i Dl.onil).1 (D.getD j Dl.onil).1 := fun j => by
      induction j with
      | zero => intro h; omega
      | succ j ih =>
        intro hij hj
        have q := (each (j + 1) hj).1 (Nat.succ_pos j)
        rw [Nat.add_sub_cancel] at q
        by_cases e : i = j
        · subst e; exact q
        · exact plt_tr _ _ _ (ih (by omega) (by omega)) q
    have := key j hij hj
    simpa [List.getD, hi, hj] using this
  · intro d hd
    obtain ⟨k, hk, rfl⟩ := List.getElem_of_mem hd
    obtain ⟨_, q1, q2⟩ := each k hk
    have eg : D.getD k Dl.onil = D[k] := by simp [List.getD, hk]
    rw [eg] at q1 q2
    refine ⟨q2, fun hn => ?_⟩
    unfold isD noA at q1
    simp only [Bool.and_eq_true, Bool.or_eq_true, decide_eq_true_eq] at q1
    rcases q1.2 with e | e
    · exact absurd e hn
    · exact eqBytes e
/-- The code that is answered, and the files. -/
def apR (la : List Ob) (D : List Dl.Ob) : Int := if ffl la = 0 then (if apE la D = 0 then ffl (fb la D) else apE la D) else ffl la
def apL (la : List Ob) (D : List Dl.Ob) : List Ob := if apR la D = 0 then fb la D else []
theorem ar_f {la : List Ob} {D : List Dl.Ob} (h : ¬ ffl la = 0) : apR la D = ffl la := if_neg h
theorem ar_d {la : List Ob} {D : List Dl.Ob} (h : ffl la = 0) (k : ¬ apE la D = 0) : apR la D = apE la D := by unfold apR; rw [if_pos h, if_neg k]
theorem ar_x {la : List Ob} {D : List Dl.Ob} (h : ffl la = 0) (k : apE la D = 0) : apR la D = ffl (fb la D) := by unfold apR; rw [if_pos h, if_pos k]
theorem fb_len : ∀ (D : List Dl.Ob) (l : List Ob), (fb l D).length ≤ l.length + D.length
  | [], l => Nat.le_refl _
  | d :: ds, l => by
    have h1 := fb_len ds (rst l d)
    have h2 : (ahd l d.1).length + (bhd l d.1).length = l.length := by rw [← List.length_append, ahd_bhd]
    have h3 : (rst l d).length ≤ (bhd l d.1).length := by
      unfold rst; split
      · exact Nat.le_refl _
      · rw [List.length_drop]; omega
    have h4 : (nw d).length ≤ 1 := by unfold nw; split <;> simp
    show (ahd l d.1 ++ (nw d ++ fb (rst l d) ds)).length ≤ _
    rw [List.length_append, List.length_append, List.length_cons]
    omega
theorem fb_small : ∀ (D : List Dl.Ob) (l : List Ob), SmallO l → Dl.SmallO D → SmallO (fb l D)
  | [], l, h, _ => h
  | d :: ds, l, h, hD => by
    have ih := fb_small ds (rst l d) (fun o ho => h o (rst_in o ho)) (fun o ho => hD o (List.mem_cons_of_mem _ ho))
    intro o ho
    have ho : o ∈ ahd l d.1 ++ (nw d ++ fb (rst l d) ds) := ho
    rcases List.mem_append.1 ho with q | q
    · exact h o (ahd_in o q)
    · rcases List.mem_append.1 q with r | r
      · unfold nw at r
        split at r
        · cases r
        · obtain rfl := List.mem_singleton.1 r
          have := hD d (by simp)
          exact ⟨this.2.2.2.1, this.2.2.2.2⟩
      · exact ih o r
/-- The walk of filesBehind: n files and i deltas are behind it, M is made. -/
structure FB (la : List Ob) (D : List Dl.Ob) (n i : Nat) (M : List Ob) : Prop where
  hn : n ≤ la.length
  eq : M ++ fb (la.drop n) (D.drop i) = fb la D
  hold : ∀ d ∈ D.drop i, fa (la.drop n) d.1 = d.2.1
  len : M.length ≤ n + i
theorem FB.start {la : List Ob} {D : List Dl.Ob} (hf : ∀ d ∈ D, fa la d.1 = d.2.1) : FB la D 0 0 [] := ⟨Nat.zero_le _, by simp, by simpa using hf, by simp⟩
theorem drop_getD {α : Type} {l : List α} {n : Nat} (d : α) (h : n < l.length) : l.drop n = l.getD n d :: l.drop (n + 1) := by
  rw [List.drop_eq_getElem_cons h]
  simp [List.getD, h]
theorem fa_cons {f : Ob} {t : List Ob} {p : ByteArray} (h : ¬ f.1 = p) : fa (f :: t) p = fa t p := by
  unfold fa
  rw [List.find?_cons_of_neg (by simpa using h)]
theorem fb_eat {f : Ob} {t : List Ob} {d : Dl.Ob} {ds : List Dl.Ob} (h : Op.bytesLess f.1.toList d.1.toList = true) : fb (f :: t) (d :: ds) = f :: fb t (d :: ds) := by
  have e1 : ahd (f :: t) d.1 = f :: ahd t d.1 := by unfold ahd; rw [List.takeWhile_cons, if_pos h]
  have e2 : bhd (f :: t) d.1 = bhd t d.1 := by unfold bhd; rw [List.dropWhile_cons, if_pos h]
  show ahd (f :: t) d.1 ++ (nw d ++ fb (rst (f :: t) d) ds) = f :: (ahd t d.1 ++ (nw d ++ fb (rst t d) ds))
  have e3 : rst (f :: t) d = rst t d := by unfold rst; rw [e2]
  rw [e1, e3]; rfl
theorem bhd_stop {l : List Ob} {p : ByteArray} (h : ∀ f t, l = f :: t → Op.bytesLess f.1.toList p.toList = false) : ahd l p = [] ∧ bhd l p = l := by
  cases l with
  | nil => exact ⟨rfl, rfl⟩
  | cons f t =>
    have q := h f t rfl
    unfold ahd bhd
    rw [List.takeWhile_cons, List.dropWhile_cons, q]
    exact ⟨rfl, rfl⟩
theorem FB.eat {la : List Ob} {D : List Dl.Ob} {n i : Nat} {M : List Ob} (h : FB la D n i M) (hd : D.Pairwise (fun x y => plt x.1 y.1)) (hn : n < la.length) (hi : i < D.length)
    (hl : Op.bytesLess (la.getD n onil).1.toList (D.getD i Dl.onil).1.toList = true) : FB la D (n + 1) i (M ++ [la.getD n onil]) := by
  have e1 := drop_getD onil hn
  have e2 := drop_getD Dl.onil hi
  have hp := plt_less.1 hl
  refine ⟨hn, ?_, fun d hx => ?_, by have := h.len; rw [List.length_append]; simp; omega⟩
  · have := h.eq
    rw [e1, e2, fb_eat hl] at this
    rw [e2, List.append_assoc]
    exact this
  · have q := h.hold d hx
    rw [e1] at q
    have hne : ¬ (la.getD n onil).1 = d.1 := by
      rw [e2] at hx
      rcases List.mem_cons.1 hx with rfl | hx
      · intro e; rw [e] at hp; exact plt_irr _ hp
      · have hdd := hd.sublist (List.drop_sublist i D)
        rw [e2] at hdd
        have := (List.pairwise_cons.1 hdd).1 d hx
        intro e; rw [e] at hp; exact plt_irr _ (plt_tr _ _ _ hp this)
    rw [fa_cons hne] at q
    exact q
theorem FB.put {la : List Ob} {D : List Dl.Ob} {n i : Nat} {M : List Ob} (h : FB la D n i M) (hr : Rise la) (nl : ∀ f ∈ la, ¬ f = onil) (hd : D.Pairwise (fun x y => plt x.1 y.1)) (hi : i < D.length)
    (hl : n < la.length → Op.bytesLess (la.getD n onil).1.toList (D.getD i Dl.onil).1.toList = false) :
    (¬ (D.getD i Dl.onil).2.1 = onil → n < la.length) ∧ FB la D (n + if (D.getD i Dl.onil).2.1 = onil then 0 else 1) (i + 1) (M ++ nw (D.getD i Dl.onil)) := by
  have e2 := drop_getD Dl.onil hi
  obtain ⟨d, hdd⟩ : ∃ d, D.getD i Dl.onil = d := ⟨_, rfl⟩
  rw [hdd] at hl e2 ⊢
  have hst : ahd (la.drop n) d.1 = [] ∧ bhd (la.drop n) d.1 = la.drop n := bhd_stop fun f t e => by
    have hn : n < la.length := by
      by_cases q : n < la.length
      · exact q
      · rw [List.drop_eq_nil_of_le (by omega)] at e; cases e
    have := drop_getD onil hn
    rw [e] at this
    have e3 := (List.cons.inj this).1
    rw [e3]; exact hl hn
  have hold := h.hold d (by rw [e2]; simp)
  have hlt : ¬ d.2.1 = onil → n < la.length := fun hne => by
    by_cases q : n < la.length
    · exact q
    · rw [List.drop_eq_nil_of_le (by omega)] at hold
      exact absurd hold.symm hne
  have hrl : Rise (la.drop n) := rise_pw.2 ((rise_pw.1 hr).sublist (List.drop_sublist _ _))
  have nll : ∀ f ∈ la.drop n, ¬ f = onil := fun f hf => nl f (List.mem_of_mem_drop hf)
  have hrst : rst (la.drop n) d = la.drop (n + if d.2.1 = onil then 0 else 1) := by
    unfold rst
    rw [hst.2]
    split
    · rfl
    · rw [List.drop_drop]
  have hpw := hd.sublist (List.drop_sublist i D)
  rw [e2] at hpw
  refine ⟨hlt, ?_, ?_, fun x hx => ?_, ?_⟩
  · split
    · exact h.hn
    · rename_i q; exact hlt q
  · have q := h.eq
    rw [e2] at q
    have q2 : M ++ (ahd (la.drop n) d.1 ++ (nw d ++ fb (rst (la.drop n) d) (D.drop (i + 1)))) = fb la D := q
    rw [hst.1, List.nil_append, hrst] at q2
    rw [List.append_assoc]; exact q2
  · rw [← hrst, fa_rst hrl nll hold ((List.pairwise_cons.1 hpw).1 x hx)]
    exact h.hold x (by rw [e2]; exact List.mem_cons_of_mem _ hx)
  · have := h.len
    have h4 : (nw d).length ≤ 1 := by unfold nw; split <;> simp
    rw [List.length_append]
    split <;> omega
theorem FB.stop {la : List Ob} {D : List Dl.Ob} {n i : Nat} {M : List Ob} (h : FB la D n i M) (hi : D.length ≤ i) : M ++ la.drop n = fb la D := by
  have := h.eq
  rw [List.drop_eq_nil_of_le hi] at this
  exact this
/-- Files answered, with a code. -/
def FE (R : Int) (L : List Ob) (w : World) (e : Ending) (w' : World) : Prop := ∃ v, e = .returned (.agg #[.int .i64 R, v]) ∧ w'.ownsRow w.heap.size 42 3 v L.length (ocells L) ∧ Below w.heap.size w w'
theorem fe_bad {la : List Ob} {D : List Dl.Ob} {R : Int} {w w' : World} (e : apR la D = R) (h : ¬ R = 0) (hb : Below w.heap.size w w') : FE (apR la D) (apL la D) w (.returned (.agg #[.int .i64 R, .slice none 0 0])) w' := by
  have e2 : apL la D = [] := if_neg (by rw [e]; exact h)
  rw [e2, e]
  exact ⟨_, rfl, ⟨rfl, .inl ⟨rfl, rfl⟩⟩, hb⟩
theorem fe_ok {la : List Ob} {D : List Dl.Ob} {w w' : World} {v : Value} {L : List Ob} {z : Nat} (e : apR la D = 0) (hL : L = fb la D) (ho : w'.ownsRow z 42 3 v L.length (ocells L)) (hz : w.heap.size ≤ z) (hb : Below w.heap.size w w') : FE (apR la D) (apL la D) w (.returned (.agg #[.int .i64 0, v])) w' := by
  have e2 : apL la D = L := by rw [hL]; exact if_pos e
  rw [e2, e]
  exact ⟨v, rfl, ownMonoF ho hz, hb⟩
end Go.Proofs.YtkgcpndnlefkoaaGreatDoor.Fl
/- What differs makes the other files: the mathematics of FnDeltas. No statement is proved here. -/
namespace Go.Proofs.YtkgcpndnlefkoaaGreatDoor.Fl
open Go.ChangeShapes Go.WideShapes Go.ChangeAt Go.RowKit

theorem dOf_some {a b : List Ob} {p : ByteArray} {d : Dl.Ob} (h : dOf a b p = some d) : ¬ fa a p = fa b p ∧ d = (p, fa a p, fa b p) := by
  unfold dOf at h
  split at h
  · cases h
  · rename_i n; exact ⟨n, (Option.some.inj h).symm⟩
theorem dOf_none {a b : List Ob} {p : ByteArray} (h : dOf a b p = none) : fa a p = fa b p := by
  unfold dOf at h
  split at h
  · rename_i e; exact e
  · cases h
theorem dfA_mem {a b : List Ob} {Q : List ByteArray} {d : Dl.Ob} (h : d ∈ dfA a b Q) : d.1 ∈ Q ∧ ¬ fa a d.1 = fa b d.1 ∧ d.2.1 = fa a d.1 ∧ d.2.2 = fa b d.1 := by
  unfold dfA at h
  obtain ⟨p, hp, e⟩ := List.mem_filterMap.1 h
  obtain ⟨n, rfl⟩ := dOf_some e
  exact ⟨hp, n, rfl, rfl⟩
theorem dfA_pw {a b : List Ob} {Q : List ByteArray} (h : Q.Pairwise plt) : (dfA a b Q).Pairwise (fun x y => plt x.1 y.1) := by
  unfold dfA
  refine List.Pairwise.filterMap _ ?_ h
  intro p q hpq x hx y hy
  obtain ⟨_, rfl⟩ := dOf_some hx
  obtain ⟨_, rfl⟩ := dOf_some hy
  exact hpq
theorem fa_out {l : List Ob} {p : ByteArray} (h : p ∉ l.map (·.1)) : fa l p = onil := fa_no fun f hf e => h (List.mem_map.2 ⟨f, hf, e⟩)
theorem df_mfa {a b : List Ob} (p : ByteArray) : mfa a (dfA a b (ps (pths a b))) p = fa b p := by
  unfold mfa
  cases e : (dfA a b (ps (pths a b))).find? (fun d => decide (d.1 = p)) with
  | some d =>
    have h1 := List.mem_of_find?_eq_some e
    have h2 : d.1 = p := by simpa using List.find?_some e
    obtain ⟨_, _, _, h⟩ := dfA_mem h1
    show d.2.2 = _
    rw [h, h2]
  | none =>
    show fa a p = fa b p
    by_cases hp : p ∈ pths a b
    · cases q : dOf a b p with
      | none => exact dOf_none q
      | some d =>
        obtain ⟨_, rfl⟩ := dOf_some q
        have hm : (p, fa a p, fa b p) ∈ dfA a b (ps (pths a b)) := List.mem_filterMap.2 ⟨p, ((ps_both _).2 p).2 hp, q⟩
        have := List.find?_eq_none.1 e _ hm
        simp at this
    · unfold pths at hp
      rw [List.mem_append] at hp
      rw [fa_out (fun h => hp (.inl h)), fa_out (fun h => hp (.inr h))]
/-- The deltas of two lists without a fault are deltas of the first, and make the second. -/
theorem fd_all {a b : List Ob} (ha : ffl a = 0) (hb : ffl b = 0) : apR a (dfA a b (ps (pths a b))) = 0 ∧ apL a (dfA a b (ps (pths a b))) = b ∧ fb a (dfA a b (ps (pths a b))) = b := by
  have hpw := dfA_pw (a := a) (b := b) (ps_both (pths a b)).1
  have hf : ∀ d ∈ dfA a b (ps (pths a b)), fa a d.1 = d.2.1 ∧ (¬ d.2.2 = onil → d.2.2.1 = d.1) := fun d hd => by
    obtain ⟨_, _, h1, h2⟩ := dfA_mem hd
    exact ⟨h1.symm, fun hn => by rw [h2] at hn ⊢; exact (fa_in hn).2⟩
  have hE : fb a (dfA a b (ps (pths a b))) = b := (sp_end (ffl_rise ha) (ffl_some ha) hpw hf (ffl_rise hb) (ffl_some hb) (fun p => (df_mfa p).symm)).symm
  have h0 : apE a (dfA a b (ps (pths a b))) = 0 := apE_ok fun j hj => by
    have hm : (dfA a b (ps (pths a b))).getD j Dl.onil ∈ dfA a b (ps (pths a b)) := by rw [List.getD, List.getElem?_eq_getElem hj]; exact List.getElem_mem _
    obtain ⟨_, h3, h1, h2⟩ := dfA_mem hm
    have hi : isD ((dfA a b (ps (pths a b))).getD j Dl.onil).1 ((dfA a b (ps (pths a b))).getD j Dl.onil).2.1 ((dfA a b (ps (pths a b))).getD j Dl.onil).2.2 = true := by
      generalize (dfA a b (ps (pths a b))).getD j Dl.onil = d at h1 h2 h3
      have hN : ∀ l : List Ob, noA (fa l d.1) d.1 = true := fun l => by
        unfold noA
        by_cases q : fa l d.1 = onil
        · rw [decide_eq_true q]; rfl
        · rw [(fa_in q).2, beq_bytes_true rfl, Bool.or_true]
      unfold isD
      rw [h1, h2, decide_eq_true h3, hN, hN]; rfl
    rw [apD_hold (fun c => ?_) hi, if_pos h1.symm]
    have hlt : plt ((dfA a b (ps (pths a b))).getD (j - 1) Dl.onil).1 ((dfA a b (ps (pths a b))).getD j Dl.onil).1 := by
      have := List.pairwise_iff_getElem.1 hpw (j - 1) j (by omega) hj (by omega)
      simpa [List.getD, hj, show j - 1 < (dfA a b (ps (pths a b))).length from by omega] using this
    have hle := c.2
    unfold leF at hle
    rw [plt_no.2 (plt_as hlt), Bool.false_or] at hle
    have := eqBytes hle
    rw [this] at hlt
    exact plt_irr _ hlt
  have hR : apR a (dfA a b (ps (pths a b))) = 0 := by rw [ar_x ha h0, hE]; exact hb
  exact ⟨hR, by unfold apL; rw [if_pos hR, hE], hE⟩
theorem df_self (a : List Ob) (Q : List ByteArray) : dfA a a Q = [] := by
  unfold dfA
  rw [List.filterMap_eq_nil_iff]
  intro p _
  unfold dOf
  rw [if_pos rfl]
/-- All that FnDeltas asks. -/
theorem fd_law {a b : List Ob} (h : dfR a b = 0) : apR a (dfL a b) = 0 ∧ apL a (dfL a b) = b ∧ dfR a a = 0 ∧ dfL a a = [] := by
  unfold dfR at h
  split at h
  · rename_i ha
    have hL : dfL a b = dfA a b (ps (pths a b)) := by unfold dfL dfR; rw [if_pos ha, if_pos h]
    obtain ⟨h1, h2, _⟩ := fd_all ha h
    have hR : dfR a a = 0 := by unfold dfR; rw [if_pos ha]; exact ha
    exact ⟨by rw [hL]; exact h1, by rw [hL]; exact h2, hR, by unfold dfL; rw [if_pos hR, df_self]⟩
  · rename_i n; exact absurd h n
end Go.Proofs.YtkgcpndnlefkoaaGreatDoor.Fl
