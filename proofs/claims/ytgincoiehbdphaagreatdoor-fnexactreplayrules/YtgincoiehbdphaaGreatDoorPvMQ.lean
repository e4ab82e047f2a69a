/- The three files of a path that clashes: the mathematics. No statement is proved here. -/
import Derived.Test.YtgincoiehbdphaaGreatDoorDiCQ
import Derived.Test.YtgincoiehbdphaaGreatDoorSgCQ
import Derived.Test.YtgincoiehbdphaaGreatDoorShMQ
import Derived.Test.YtgincoiehbdphaaGreatDoorTvMQ
set_option linter.unusedVariables false
namespace Go.Proofs.YtgincoiehbdphaaGreatDoor.En
open Go.RowKit
def atP (p : ByteArray) (s : Int) (e : Ob) : Bool := (e.2.1 == s) && (e.1.toList == p.toList)
theorem atP_iff {p : ByteArray} {s : Int} {e : Ob} : atP p s e = true ↔ e.2.1 = s /\ e.1 = p := by
 unfold atP
 rw [Bool.and_eq_true]
 constructor
 ·rintro ⟨h1, h2⟩
  exact ⟨eq_of_beq h1, bytes_inj2 (eq_of_beq h2)⟩
 ·rintro ⟨h1, h2⟩
  exact ⟨by simp [h1], beq_bytes_true h2⟩
def ffF (fs : List Fl.Ob) (p : ByteArray) : Fl.Ob := (fs.find? (fun f => f.1.toList == p.toList)).getD Fl.onil
def vf (l : List Ob) (p : ByteArray) (s : Int) : Fl.Ob := ffF (stg l s) p
def vsK (l : List Ob) (p : ByteArray) (s : Int) : Nat -> Fl.Ob
 | 0 => Fl.onil
 | k + 1 => if atP p s (l.getD k onil) = true then fil (l.getD k onil) else vsK l p s k
theorem vsK_yes {l : List Ob} {p : ByteArray} {s : Int} {k : Nat} (h : atP p s (l.getD k onil) = true) : vsK l p s (k + 1) = fil (l.getD k onil) := if_pos h
theorem vsK_no {l : List Ob} {p : ByteArray} {s : Int} {k : Nat} (h : ¬ atP p s (l.getD k onil) = true) : vsK l p s (k + 1) = vsK l p s k := if_neg h
theorem vsK_hit {l : List Ob} {p : ByteArray} {s : Int} {k : Nat} (h : atP p s (l.getD k onil) = true) : ∀ n, k < n -> (∀ j, k < j -> j < n -> ¬ atP p s (l.getD j onil) = true) -> vsK l p s n = fil (l.getD k onil) := by
 intro n
 induction n with
 | zero => intro h1; omega
 | succ n ih =>
  intro h1 h2
  by_cases e : k = n
  ·rw [<- e]; exact vsK_yes h
  ·rw [vsK_no (h2 n (by omega) (by omega))]
   exact ih (by omega) fun j j1 j2 => h2 j j1 (by omega)
theorem vsK_none {l : List Ob} {p : ByteArray} {s : Int} : ∀ n, (∀ j, j < n -> ¬ atP p s (l.getD j onil) = true) -> vsK l p s n = Fl.onil := by
 intro n
 induction n with
 | zero => intro _; rfl
 | succ n ih =>
  intro h
  rw [vsK_no (h n (by omega))]
  exact ih fun j hj => h j (by omega)
theorem at_only {l : List Ob} (h : ixf l = 0) {p : ByteArray} {s : Int} {i j : Nat} (hi : i < l.length) (hj : j < l.length) (h1 : atP p s (l.getD i onil) = true) (h2 : atP p s (l.getD j onil) = true) : i = j := by
 obtain ⟨a1, a2⟩ := atP_iff.1 h1
 obtain ⟨b1, b2⟩ := atP_iff.1 h2
 have key : ∀ x y, x < y -> y < l.length -> (l.getD x onil).1 = (l.getD y onil).1 -> (l.getD x onil).2.1 = (l.getD y onil).2.1 -> False := fun x y xy hy e1 e2 => by
  rcases cmE_lt.1 (ix_rises h y x xy hy) with q | q
  ·rw [e1] at q
   have := cmB_zero.2 (rfl : (l.getD y onil).1 = (l.getD y onil).1)
   omega
  ·omega
 rcases Nat.lt_trichotomy i j with t | t | t
 ·exact (key i j t hj (by rw [a2, b2]) (by rw [a1, b1])).elim
 ·exact t
 ·exact (key j i t hi (by rw [a2, b2]) (by rw [a1, b1])).elim
theorem vf_find (l : List Ob) (p : ByteArray) (s : Int) : vf l p s = ((l.find? (atP p s)).map fil).getD Fl.onil := by
 unfold vf ffF stg
 rw [List.find?_map, List.find?_filter]
 have e : (fun a : Ob => decide ((a.2.1 == s) = true /\ ((fun f : Fl.Ob => f.1.toList == p.toList) ∘ fil) a = true)) = atP p s := by
  funext a
  unfold atP
  rw [Bool.decide_and, Bool.decide_eq_true, Bool.decide_eq_true]
  rfl
 rw [e]
theorem vs_vf {l : List Ob} (h : ixf l = 0) (p : ByteArray) (s : Int) : vsK l p s l.length = vf l p s := by
 rw [vf_find]
 cases hf : l.find? (atP p s) with
 | none =>
  have h1 := List.find?_eq_none.1 hf
  exact vsK_none _ fun j hj => h1 _ (ob_mem l j hj)
 | some x =>
  have h1 := List.find?_some hf
  have h2 := List.mem_of_find?_eq_some hf
  obtain ⟨k, hk, e⟩ := List.getElem_of_mem h2
  have e2 : l.getD k onil = x := by rw [<- e]; simp [List.getD, hk]
  rw [<- e2] at h1
  show vsK l p s l.length = fil x
  rw [vsK_hit h1 l.length hk (fun j j1 j2 q => by have := at_only h hk j2 h1 q; omega), e2]
theorem ff_at {fs : List Fl.Ob} {p : ByteArray} {k : Nat} (hk : k < fs.length) (h0 : ∀ j, j < k -> ¬ (fs.getD j Fl.onil).1 = p) (h : (fs.getD k Fl.onil).1 = p) : ffF fs p = fs.getD k Fl.onil := by
 unfold ffF
 have e : fs.find? (fun f => f.1.toList == p.toList) = some (fs.getD k Fl.onil) := by
  rw [List.find?_eq_some_iff_getElem]
  refine ⟨beq_bytes_true h, k, hk, by simp [List.getD, hk], fun j hj => ?_⟩
  have h1 := h0 j hj
  have e1 : fs.getD j Fl.onil = fs[j]'(by omega) := by simp [List.getD, show j < fs.length by omega]
  rw [e1] at h1
  rw [beq_bytes_false h1]
  rfl
 rw [e]
 rfl
theorem ff_none {fs : List Fl.Ob} {p : ByteArray} (h0 : ∀ j, j < fs.length -> ¬ (fs.getD j Fl.onil).1 = p) : ffF fs p = Fl.onil := by
 unfold ffF
 have e : fs.find? (fun f => f.1.toList == p.toList) = none := by
  rw [List.find?_eq_none]
  intro x hx
  obtain ⟨j, hj, ej⟩ := List.getElem_of_mem hx
  have h1 := h0 j hj
  have e1 : fs.getD j Fl.onil = x := by rw [<- ej]; simp [List.getD, hj]
  rw [e1] at h1
  rw [beq_bytes_false h1]
  decide
 rw [e]
 rfl
end Go.Proofs.YtgincoiehbdphaaGreatDoor.En
set_option linter.unusedVariables false
namespace Go.Proofs.YtgincoiehbdphaaGreatDoor.Pv
open Go.RowKit
def som (fs : List Fl.Ob) : List Fl.Ob := fs.filter fun f => decide (¬ f = Fl.onil)
theorem som_yes (fs : List Fl.Ob) (k : Nat) (hk : k < fs.length) (h : ¬ fs.getD k Fl.onil = Fl.onil) : som (fs.take (k + 1)) = som (fs.take k) ++ [fs.getD k Fl.onil] := by
 rw [Fl.ob_take fs k hk]
 unfold som
 rw [List.filter_append, List.filter_cons, if_pos (decide_eq_true h), List.filter_nil]
theorem som_no (fs : List Fl.Ob) (k : Nat) (hk : k < fs.length) (h : fs.getD k Fl.onil = Fl.onil) : som (fs.take (k + 1)) = som (fs.take k) := by
 rw [Fl.ob_take fs k hk]
 unfold som
 rw [List.filter_append, List.filter_cons, if_neg (by rw [h]; simp), List.filter_nil, List.append_nil]
theorem som_len (fs : List Fl.Ob) (k : Nat) : (som (fs.take k)).length <= k := by
 have h1 : (som (fs.take k)).length <= (fs.take k).length := List.length_filter_le _ _
 rw [List.length_take] at h1
 omega
def tx (st : List Ob) (f : Fl.Ob) : ByteArray := (gt st 1 f.2.2).getD ⟨#[]⟩
theorem tx_nil {st : List Ob} (h : sf st = 0) : tx st Fl.onil = ⟨#[]⟩ := by
 unfold tx
 rw [show gt st 1 Fl.onil.2.2 = none from gt_noid h rfl]
 rfl
theorem tx_size {st : List Ob} (h : SmallO st) (f : Fl.Ob) : (tx st f).size <= 1048576 := by
 unfold tx
 rcases fz_cases st f.2.2 with e | ⟨n, e, hn, _⟩
 ·rw [gt_less e]; exact Nat.zero_le _
 ·by_cases e2 : (st.getD n onil).2.1 = 1
  ·rw [gt_yes e e2]
   exact (h _ (ob_mem st n hn)).2
  ·rw [gt_no e e2]; exact Nat.zero_le _
theorem fo_tx (st : List Ob) (f : Fl.Ob) : (fo st 1 f.2.2).2.2 = tx st f := by
 unfold fo tx
 cases gt st 1 f.2.2 with
 | none => rfl
 | some d => rfl
def bin3 (x y z : ByteArray) : Bool := binB x.data.toList || (binB y.data.toList || binB z.data.toList)
end Go.Proofs.YtgincoiehbdphaaGreatDoor.Pv
set_option linter.unusedVariables false
namespace Go.Proofs.YtgincoiehbdphaaGreatDoor.Pv
open Go.RowKit
def less3 (st : List Ob) (f g h : Fl.Ob) : Bool := decide (g = Fl.onil) || (decide (h = Fl.onil) || !hbF st (som [f, g, h]))
def pvC (st : List Ob) (f g h : Fl.Ob) : Int := if less3 st f g h = true then 4 else if bin3 (tx st f) (tx st g) (tx st h) = true then 1 else No.noC (tx st f) (tx st g) (tx st h)
def pvT (st : List Ob) (f g h : Fl.Ob) : ByteArray := if less3 st f g h = true then ⟨#[]⟩ else if bin3 (tx st f) (tx st g) (tx st h) = true then ⟨#[]⟩ else No.noX (tx st f) (tx st g) (tx st h)
theorem pv_less {st : List Ob} {f g h : Fl.Ob} (e : less3 st f g h = true) : pvC st f g h = 4 /\ pvT st f g h = ⟨#[]⟩ := ⟨if_pos e, if_pos e⟩
theorem pv_bin {st : List Ob} {f g h : Fl.Ob} (e : less3 st f g h = false) (q : bin3 (tx st f) (tx st g) (tx st h) = true) : pvC st f g h = 1 /\ pvT st f g h = ⟨#[]⟩ := ⟨by unfold pvC; rw [if_neg (by rw [e]; decide), if_pos q], by unfold pvT; rw [if_neg (by rw [e]; decide), if_pos q]⟩
theorem pv_text {st : List Ob} {f g h : Fl.Ob} (e : less3 st f g h = false) (q : bin3 (tx st f) (tx st g) (tx st h) = false) : pvC st f g h = No.noC (tx st f) (tx st g) (tx st h) /\ pvT st f g h = No.noX (tx st f) (tx st g) (tx st h) := ⟨by unfold pvC; rw [if_neg (by rw [e]; decide), if_neg (by rw [q]; decide)], by unfold pvT; rw [if_neg (by rw [e]; decide), if_neg (by rw [q]; decide)]⟩
end Go.Proofs.YtgincoiehbdphaaGreatDoor.Pv
