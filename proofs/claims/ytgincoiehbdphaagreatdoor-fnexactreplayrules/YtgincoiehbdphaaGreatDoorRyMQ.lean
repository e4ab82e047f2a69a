/- Rules replayed: the mathematics. No statement is proved here. -/
import Derived.Test.YtgincoiehbdphaaGreatDoorSwMQ
import Derived.Test.YtgincoiehbdphaaGreatDoorPuPQ
import Derived.Test.YtgincoiehbdphaaGreatDoorRuLQ
import Derived.Test.YtgincoiehbdphaaGreatDoorPvMQ
set_option linter.unusedVariables false
namespace Go.Proofs.YtgincoiehbdphaaGreatDoor.En
open Go.RowKit
theorem cmE_self (e : Ob) : ¬ cmE e e < 0 := fun h => by
 rcases cmE_lt.1 h with q | ⟨_, q⟩
 ·rw [cmB_zero.2 rfl] at q; omega
 ·omega
theorem ix_mix {l : List Ob} (h : ixf l = 0) {j k : Nat} (hj : j < l.length) (hk : k < l.length) (he : (l.getD j onil).1 = (l.getD k onil).1) (h0 : (l.getD j onil).2.1 = 0) : j = k := by
 rcases Nat.lt_trichotomy j k with q | q | q
 ·exfalso
  have hb := (eiF_zero ((ixf_zero h).2 (j + 1) (by omega))).2 (by omega)
  rw [Nat.add_sub_cancel] at hb
  have hs : (l.getD j onil).1 = (l.getD (j + 1) onil).1 := by
   have a1 := ix_rises h (j + 1) j (by omega) (by omega)
   rcases cmE_lt.1 a1 with c | ⟨c, _⟩
   ·exfalso
    by_cases e : j + 1 = k
    ·rw [e, <- he, cmB_zero.2 rfl] at c; omega
    ·have a2 := ix_rises h k (j + 1) (by omega) hk
     rcases cmE_lt.1 a2 with d | ⟨d, _⟩
     ·have := cmB_trans c d
      rw [<- he, cmB_zero.2 rfl] at this; omega
     ·rw [d, <- he, cmB_zero.2 rfl] at c; omega
   ·exact c
  unfold bh at hb
  rw [beq_bytes_true hs, h0] at hb
  simp at hb
 ·exact q
 ·exfalso
  have a1 := ix_rises h j k q hj
  rcases cmE_lt.1 a1 with c | ⟨_, c⟩
  ·rw [he, cmB_zero.2 rfl] at c; omega
  ·have := (ix_stage ((ixf_zero h).2 k hk)).1; omega
theorem ix_mixM {l : List Ob} (h : ixf l = 0) {e f : Ob} (he : e ∈ l) (hf : f ∈ l) (hp : e.1 = f.1) (h0 : e.2.1 = 0) : e = f := by
 obtain ⟨j, hj, rfl⟩ := List.getElem_of_mem he
 obtain ⟨k, hk, rfl⟩ := List.getElem_of_mem hf
 have := ix_mix h hj hk (by rw [getD_el _ _ hj, getD_el _ _ hk]; exact hp) (by rw [getD_el _ _ hj]; exact h0)
 subst this
 rfl
theorem ix_of {l : List Ob} (hn : l.length <= 200) (he : ∀ e ∈ l, eiO e = 0) (hr : Rise l) (hm : ∀ e ∈ l, ∀ f ∈ l, e.1 = f.1 -> e.2.1 = 0 -> e = f) : ixf l = 0 := by
 refine ixf_ok (by omega) (fun k hk => ?_)
 unfold eiF
 rw [if_pos (he _ (ob_mem l k hk)), if_neg]
 rintro ⟨h0, hb⟩
 have h1 := hr (k - 1) k (by omega) hk
 unfold bh at hb
 rw [decide_eq_true h1, Bool.true_and] at hb
 have hb' : (((l.getD (k - 1) onil).1.toList == (l.getD k onil).1.toList) && ((l.getD (k - 1) onil).2.1 == 0)) = true := by simpa using hb
 obtain ⟨a, b⟩ := Bool.and_eq_true_iff.1 hb'
 have e1 : (l.getD (k - 1) onil).1 = (l.getD k onil).1 := by
  by_cases q : (l.getD (k - 1) onil).1 = (l.getD k onil).1
  ·exact q
  ·rw [beq_bytes_false q] at a; cases a
 have e2 := hm _ (ob_mem l (k - 1) (by omega)) _ (ob_mem l k hk) e1 (by simpa using b)
 rw [e2] at h1
 exact cmE_self _ h1
theorem ix_ei {l : List Ob} (h : ixf l = 0) {e : Ob} (he : e ∈ l) : eiO e = 0 := by
 obtain ⟨j, hj, rfl⟩ := List.getElem_of_mem he
 have := (eiF_zero ((ixf_zero h).2 j hj)).1
 rwa [getD_el _ _ hj] at this
theorem rsF_mem {l : List Ob} {p : ByteArray} {e : Ob} : e ∈ rsF l p ↔ e ∈ l /\ ¬ e.1 = p := by
 unfold rsF
 rw [List.mem_filter]
 constructor
 ·rintro ⟨h, q⟩
  refine ⟨h, fun e1 => ?_⟩
  rw [offP_no e1] at q; cases q
 ·rintro ⟨h, q⟩
  exact ⟨h, offP_yes q⟩
theorem insL_mem {l : List Ob} {q : Nat} {x e : Ob} : x ∈ insL l q e ↔ x ∈ l \/ x = e := by
 have hl : l.take q ++ l.drop q = l := List.take_append_drop q l
 unfold insL
 constructor
 ·intro h
  rcases List.mem_append.1 h with h | h
  ·exact .inl (List.mem_of_mem_take h)
  ·rcases List.mem_append.1 h with h | h
   ·exact .inr (by simpa using h)
   ·exact .inl (List.mem_of_mem_drop h)
 ·rintro (h | rfl)
  ·rw [<- hl] at h
   rcases List.mem_append.1 h with h | h
   ·exact List.mem_append_left _ h
   ·exact List.mem_append_right _ (List.mem_append_right _ h)
  ·exact List.mem_append_right _ (List.mem_append_left _ (by simp))
theorem rsU_mem {l : List Ob} {p : ByteArray} {m : Int} {i : ByteArray} {e : Ob} : e ∈ rsU l p m i ↔ (e ∈ l /\ ¬ e.1 = p) \/ (¬ m = 0 /\ e = (p, 0, m, i)) := by
 unfold rsU
 by_cases hm : m = 0
 ·rw [if_pos hm, rsF_mem]
  exact ⟨fun h => .inl h, fun h => h.elim id (fun q => absurd hm q.1)⟩
 ·rw [if_neg hm, insL_mem, rsF_mem]
  exact ⟨fun h => h.elim .inl (fun q => .inr ⟨hm, q⟩), fun h => h.elim .inl (fun q => .inr q.2)⟩
theorem rsF_lt {l : List Ob} {p : ByteArray} {e : Ob} (he : e ∈ l) (h : e.1 = p) : (rsF l p).length < l.length := by
 unfold rsF
 rw [List.length_filter_lt_length_iff_exists]
 exact ⟨e, he, by rw [offP_no h]; decide⟩
theorem rs_ix {l : List Ob} {p : ByteArray} {m : Int} {i : ByteArray} (h : ixf l = 0) {x : Ob} (hx : x ∈ l) (hp : x.1 = p) (hm : m = 0 \/ inB m 1 2 = true) (hi : rsI m i = true) : ixf (rsU l p m i) = 0 := by
 have hl := (ixf_zero h).1
 have hlt := rsF_lt hx hp
 refine ix_of ?_ ?_ ?_ ?_
 ·unfold rsU
  split
  ·omega
  ·rw [insL_length _ _ _ (pe_le _ _)]; omega
 ·intro e he
  rcases rsU_mem.1 he with ⟨q, _⟩ | ⟨q, rfl⟩
  ·exact ix_ei h q
  ·have h1 := ix_ei h hx
   have hm' : inB m 1 2 = true := by
    rcases hm with hm | hm
    ·exact absurd hm q
    ·exact hm
   unfold rsI at hi
   rw [if_neg q] at hi
   have hp0 : pf p = 0 := by rw [<- hp]; exact (ei_zero h1).1
   show ei p 0 m i = 0
   exact ei_ok hp0 (by rw [hm']; simp [inB]) hi
 ·unfold rsU
  split
  ·exact rs_rise h p
  ·exact ins_rise (rs_rise h p) (rs_apart l p 0 m i)
 ·intro e he f hf e1 e0
  rcases rsU_mem.1 he with ⟨q, q2⟩ | ⟨q, rfl⟩
  ·rcases rsU_mem.1 hf with ⟨r, r2⟩ | ⟨r, rfl⟩
   ·exact ix_mixM h q r e1 e0
   ·exact absurd e1 q2
  ·rcases rsU_mem.1 hf with ⟨r, r2⟩ | ⟨r, rfl⟩
   ·exact absurd e1.symm r2
   ·rfl
theorem clS_mem {c : List ByteArray} {o : Ob} {q : ByteArray} : q ∈ clS c o ↔ q ∈ c \/ (¬ o.2.1 = 0 /\ o.1 = q) := by
 unfold clS
 by_cases h : o.2.1 = 0
 ·rw [if_pos h]
  exact ⟨.inl, fun x => x.elim id (fun y => absurd h y.1)⟩
 ·rw [if_neg h]
  by_cases g : c.getLast? = some o.1
  ·rw [if_pos g]
   refine ⟨.inl, fun x => x.elim id (fun y => ?_)⟩
   rw [<- y.2]
   exact List.mem_of_getLast? g
  ·rw [if_neg g, List.mem_append, List.mem_singleton]
   exact ⟨fun x => x.elim .inl (fun y => .inr ⟨h, y.symm⟩), fun x => x.elim .inl (fun y => .inr y.2.symm)⟩
theorem cl_memF : ∀ (l : List Ob) (c : List ByteArray) (q : ByteArray), q ∈ l.foldl clS c ↔ q ∈ c \/ ∃ e ∈ l, ¬ e.2.1 = 0 /\ e.1 = q
 | [], c, q => by simp
 | o :: t, c, q => by
  rw [List.foldl_cons, cl_memF t, clS_mem]
  constructor
  ·rintro ((h | h) | ⟨e, he, h⟩)
   ·exact .inl h
   ·exact .inr ⟨o, by simp, h⟩
   ·exact .inr ⟨e, List.mem_cons_of_mem _ he, h⟩
  ·rintro (h | ⟨e, he, h⟩)
   ·exact .inl (.inl h)
   ·rcases List.mem_cons.1 he with rfl | he
    ·exact .inl (.inr h)
    ·exact .inr ⟨e, he, h⟩
theorem hasB_mem {c : List ByteArray} {p : ByteArray} : hasB c p = true ↔ p ∈ c := by
 rw [hasB_yes]
 constructor
 ·rintro ⟨k, hk, rfl⟩
  rw [getD_at c k hk]
  exact List.getElem_mem hk
 ·intro h
  obtain ⟨k, hk, rfl⟩ := List.getElem_of_mem h
  exact ⟨k, hk, getD_at c k hk⟩
theorem has_cl {l : List Ob} {q : ByteArray} : hasB (cl l) q = true ↔ ∃ e ∈ l, ¬ e.2.1 = 0 /\ e.1 = q := by
 rw [hasB_mem]
 unfold cl
 rw [cl_memF]
 simp
theorem has_rs {l : List Ob} {p q : ByteArray} {m : Int} {i : ByteArray} (hq : ¬ q = p) (h : hasB (cl l) q = true) : hasB (cl (rsU l p m i)) q = true := by
 obtain ⟨e, he, h0, h1⟩ := has_cl.1 h
 exact has_cl.2 ⟨e, rsU_mem.2 (.inl ⟨he, by rw [h1]; exact hq⟩), h0, h1⟩
theorem vf_some {l : List Ob} {p : ByteArray} {s : Int} (h : ¬ vf l p s = Fl.onil) : ∃ e ∈ l, e.1 = p /\ e.2.1 = s /\ vf l p s = fil e := by
 rw [vf_find] at h ⊢
 cases hf : l.find? (atP p s) with
 | none => rw [hf] at h; exact absurd rfl h
 | some e =>
  have h1 := List.find?_some hf
  obtain ⟨a, b⟩ := atP_iff.1 h1
  exact ⟨e, List.mem_of_find?_eq_some hf, b, a, rfl⟩
end Go.Proofs.YtgincoiehbdphaaGreatDoor.En
namespace Go.Proofs.YtgincoiehbdphaaGreatDoor.Ru
open Go.RowKit
theorem fdF_atY {l : List Ob} {p : ByteArray} : ∀ n k j : Nat, fdF l p n k = (j : Int) -> (l.getD j onil).1 = p := by
 intro n
 induction n with
 | zero => intro k j h; simp only [fdF] at h; omega
 | succ n ih =>
  intro k j h
  by_cases e : (l.getD k onil).1 = p
  ·rw [fdF_hit e] at h
   have : k = j := by omega
   rw [<- this]; exact e
  ·rw [fdF_miss e] at h
   exact ih _ _ h
theorem fd_at' {l : List Ob} {p : ByteArray} {j : Nat} (h : fd l p = (j : Int)) : (l.getD j onil).1 = p := fdF_atY _ _ _ h
end Go.Proofs.YtgincoiehbdphaaGreatDoor.Ru
namespace Go.Proofs.YtgincoiehbdphaaGreatDoor.Ry
open Go.RowKit
open Go.Proofs.YtgincoiehbdphaaGreatDoor.Pv
def ryA (st : List Ob) (l : List En.Ob) (R : List Ru.Ob) (p : ByteArray) : Int := Ru.fd R (pvT st (En.vf l p 1) (En.vf l p 2) (En.vf l p 3))
def ryOk (st : List Ob) (l : List En.Ob) (R : List Ru.Ob) (p : ByteArray) : Bool := !decide (ryA st l R p = -1) && decide ((En.vf l p 2).2.1 = (En.vf l p 3).2.1)
def ryP (st : List Ob) (l : List En.Ob) (R : List Ru.Ob) (p : ByteArray) : ByteArray := (R.getD (ryA st l R p).toNat Ru.onil).2
def ryF (st : List Ob) (l : List En.Ob) (R : List Ru.Ob) : List ByteArray -> Int -> List Ob -> List En.Ob -> Int × Int × List Ob × List En.Ob
 | [], d, O, I => (0, d, O, I)
 | p :: t, d, O, I => if ryOk st l R p = true then (if pC O 1 (ryP st l R p) = 0 then ryF st l R t (d + 1) (pL O 1 (ryP st l R p)) (En.rsU I p (En.vf l p 2).2.1 (pS O 1 (ryP st l R p))) else (pC O 1 (ryP st l R p), 0, [], [])) else ryF st l R t d O I
theorem tx_drop (c : List ByteArray) (k : Nat) (h : k < c.length) : c.drop k = c.getD k ByteArray.empty :: c.drop (k + 1) := by
 rw [List.drop_eq_getElem_cons h, getD_at c k h]
theorem ry_end {st : List Ob} {l : List En.Ob} {R : List Ru.Ob} {c : List ByteArray} {k : Nat} (h : ¬ k < c.length) (d : Int) (O : List Ob) (I : List En.Ob) : ryF st l R (c.drop k) d O I = (0, d, O, I) := by
 rw [List.drop_of_length_le (by omega)]; rfl
theorem ry_skip {st : List Ob} {l : List En.Ob} {R : List Ru.Ob} {c : List ByteArray} {k : Nat} (h : k < c.length) {p : ByteArray} (hp : c.getD k ByteArray.empty = p) (e : ryOk st l R p = false) (d : Int) (O : List Ob) (I : List En.Ob) : ryF st l R (c.drop k) d O I = ryF st l R (c.drop (k + 1)) d O I := by
 rw [tx_drop c k h, hp, ryF, if_neg (by rw [e]; decide)]
theorem ry_take {st : List Ob} {l : List En.Ob} {R : List Ru.Ob} {c : List ByteArray} {k : Nat} (h : k < c.length) {p : ByteArray} (hp : c.getD k ByteArray.empty = p) (e : ryOk st l R p = true) {d : Int} {O : List Ob} {I : List En.Ob} (e2 : pC O 1 (ryP st l R p) = 0) : ryF st l R (c.drop k) d O I = ryF st l R (c.drop (k + 1)) (d + 1) (pL O 1 (ryP st l R p)) (En.rsU I p (En.vf l p 2).2.1 (pS O 1 (ryP st l R p))) := by
 rw [tx_drop c k h, hp, ryF, if_pos e, if_pos e2]
theorem ry_full {st : List Ob} {l : List En.Ob} {R : List Ru.Ob} {c : List ByteArray} {k : Nat} (h : k < c.length) {p : ByteArray} (hp : c.getD k ByteArray.empty = p) (e : ryOk st l R p = true) {d : Int} {O : List Ob} {I : List En.Ob} (e2 : ¬ pC O 1 (ryP st l R p) = 0) : ryF st l R (c.drop k) d O I = (pC O 1 (ryP st l R p), 0, [], []) := by
 rw [tx_drop c k h, hp, ryF, if_pos e, if_neg e2]
theorem fd_none {R : List Ru.Ob} (h : Ru.rf R = 0) : Ru.fd R ⟨#[]⟩ = -1 := by
 rcases Ru.fd_bd R ⟨#[]⟩ with e | ⟨j, e, hj⟩
 ·exact e
 ·exfalso
  have h1 : (R.getD j Ru.onil).1 = ⟨#[]⟩ := Ru.fd_at' e
  have h2 := (Ru.rf_zero h).2 j hj
  unfold Ru.ruF at h2
  rw [h1] at h2
  have h3 : Ru.okPre ⟨#[]⟩ = false := by unfold Ru.okPre; exact decide_eq_false (fun q => by have := q.1; simp [ByteArray.size] at this)
  rw [if_pos h3] at h2
  omega
theorem pv_empty {st : List Ob} {f g h : Fl.Ob} (e : ¬ pvC st f g h = 0) : pvT st f g h = ⟨#[]⟩ := by
 cases hl : less3 st f g h with
 | true => exact (pv_less hl).2
 | false =>
  cases hb : bin3 (tx st f) (tx st g) (tx st h) with
  | true => exact (pv_bin hl hb).2
  | false =>
   obtain ⟨e1, e2⟩ := pv_text hl hb
   rw [e1] at e
   rw [e2]
   by_cases h0 : tx3 (tx st f) (tx st g) (tx st h) = 0
   ·by_cases h1 : cc (ckT (linesOf (tx st f)) (linesOf (tx st g)) (linesOf (tx st h))) = 0
    ·exact (No.no_none h0 h1).2
    ·exact absurd (No.no_some h0 h1).1 e
   ·exact (No.no_fault h0).2
theorem ok_less {st : List Ob} {l : List En.Ob} {R : List Ru.Ob} {p : ByteArray} (hR : Ru.rf R = 0) (h : ¬ ryA st l R p = -1) : pvC st (En.vf l p 1) (En.vf l p 2) (En.vf l p 3) = 0 /\ ¬ En.vf l p 2 = Fl.onil := by
 by_cases e : pvC st (En.vf l p 1) (En.vf l p 2) (En.vf l p 3) = 0
 ·refine ⟨e, fun q => ?_⟩
  have := (pv_less (st := st) (f := En.vf l p 1) (g := En.vf l p 2) (h := En.vf l p 3) (by unfold less3; rw [decide_eq_true q]; rfl)).1
  omega
 ·exfalso
  apply h
  unfold ryA
  rw [pv_empty e]
  exact fd_none hR
theorem code_none {st : List Ob} {l : List En.Ob} {R : List Ru.Ob} {p : ByteArray} (hR : Ru.rf R = 0) (h : ¬ pvC st (En.vf l p 1) (En.vf l p 2) (En.vf l p 3) = 0) : ryA st l R p = -1 := by
 by_cases e : ryA st l R p = -1
 ·exact e
 ·exact absurd (ok_less hR e).1 h
theorem a_bd (st : List Ob) (l : List En.Ob) (R : List Ru.Ob) (p : ByteArray) : ryA st l R p = -1 \/ ∃ j : Nat, ryA st l R p = j /\ j < R.length := Ru.fd_bd R _
theorem post_tf {R : List Ru.Ob} (hR : Ru.rf R = 0) {j : Nat} (hj : j < R.length) : tf (R.getD j Ru.onil).2 = 0 := by
 have h2 := (Ru.rf_zero hR).2 j hj
 unfold Ru.ruF at h2
 split at h2
 ·omega
 ·split at h2
  ·omega
  ·exact h2
theorem isOf_idN (d : ByteArray) : isOf 1 (idN 1 d) = true := by
 unfold isOf
 rw [idB_idN, Bool.true_and]
 apply decide_eq_true
 rfl
structure Inv (l : List En.Ob) (c : List ByteArray) (k : Nat) (O : List Ob) (I : List En.Ob) : Prop where
 asc : Asc O
 len : O.length <= 200
 ix : En.ixf I = 0
 small : En.SmallO I
 left : ∀ j, k <= j -> j < c.length -> En.hasB (En.cl I) (c.getD j ByteArray.empty) = true
theorem Inv.start {st : List Ob} {l : List En.Ob} (h1 : sf st = 0) (h2 : En.ixf l = 0) (hs : En.SmallO l) : Inv l (En.cl l) 0 st l :=
 ⟨asc_of h1, by have := (sf_zero h1).1; omega, h2, hs, fun j _ hj => En.hasB_yes.2 ⟨j, hj, rfl⟩⟩
theorem Inv.skip {l : List En.Ob} {c : List ByteArray} {k : Nat} {O : List Ob} {I : List En.Ob} (h : Inv l c k O I) : Inv l c (k + 1) O I :=
 ⟨h.asc, h.len, h.ix, h.small, fun j h1 h2 => h.left j (by omega) h2⟩
theorem mode_in {l : List En.Ob} {p : ByteArray} (h : En.ixf l = 0) (hv : ¬ En.vf l p 2 = Fl.onil) : inB (En.vf l p 2).2.1 1 2 = true /\ ∃ e ∈ l, e.1 = p := by
 obtain ⟨e, he, h1, _, h3⟩ := En.vf_some hv
 rw [h3]
 exact ⟨(En.ei_zero (En.ix_ei h he)).2.2.1, e, he, h1⟩
theorem Inv.take {st : List Ob} {l : List En.Ob} {R : List Ru.Ob} {c : List ByteArray} {k : Nat} {O : List Ob} {I : List En.Ob} (h : Inv l c k O I) (hc : c = En.cl l) (hl : En.ixf l = 0) (hls : En.SmallO l) (hR : Ru.rf R = 0) (hk : k < c.length) {p : ByteArray} (hp : c.getD k ByteArray.empty = p) (e : ryOk st l R p = true) (e2 : pC O 1 (ryP st l R p) = 0) :
  Inv l c (k + 1) (pL O 1 (ryP st l R p)) (En.rsU I p (En.vf l p 2).2.1 (pS O 1 (ryP st l R p))) /\ En.rsC I p (En.vf l p 2).2.1 (pS O 1 (ryP st l R p)) = 0 /\ En.rsL I p (En.vf l p 2).2.1 (pS O 1 (ryP st l R p)) = En.rsU I p (En.vf l p 2).2.1 (pS O 1 (ryP st l R p)) := by
 have hA : ¬ ryA st l R p = -1 := fun q => by unfold ryOk at e; rw [decide_eq_true q] at e; cases e
 obtain ⟨_, hv⟩ := ok_less hR hA
 obtain ⟨hmode, x, hx, hxp⟩ := mode_in hl hv
 have hS : pS O 1 (ryP st l R p) = idN 1 (ryP st l R p) := if_pos e2
 have hI : En.rsI (En.vf l p 2).2.1 (pS O 1 (ryP st l R p)) = true := by
  unfold En.rsI
  rw [hS, if_neg (fun q => by rw [q] at hmode; simp [inB] at hmode)]
  exact isOf_idN _
 have hB : En.hasB (En.cl I) p = true := by rw [<- hp]; exact h.left k (Nat.le_refl _) hk
 obtain ⟨y, hy, _, hyp⟩ := En.has_cl.1 hB
 have hsrt : En.Srt c := by rw [hc]; exact En.cl_srt hl
 refine ⟨⟨(q_perm h.asc e2).1, pL_len h.len h.asc, En.rs_ix h.ix hy hyp (.inr hmode) hI, ?_, ?_⟩, En.rs_ok h.ix hB (.inr hmode) hI⟩
 ·intro o ho
  rcases En.rsU_mem.1 ho with ⟨q, _⟩ | ⟨_, rfl⟩
  ·exact h.small o q
  ·refine ⟨?_, ?_⟩
   ·show p.size <= _
    rw [<- hxp]; exact (hls x hx).1
   ·show (pS O 1 (ryP st l R p)).size <= _
    rw [hS, idN_size]; omega
 ·intro j h1 h2
  refine En.has_rs ?_ (h.left j (by omega) h2)
  intro q
  have h3 := hsrt k j (by omega) h2
  rw [hp, q, En.cmB_zero.2 rfl] at h3
  omega
def rrC (st : List Ob) (l : List En.Ob) (R : List Ru.Ob) : Int := if sf st = 0 then (if En.ixf l = 0 then (if Ru.rf R = 0 then (ryF st l R (En.cl l) 0 st l).1 else Ru.rf R) else En.ixf l) else sf st
def rrZ (st : List Ob) (l : List En.Ob) (R : List Ru.Ob) : Int × List Ob × List En.Ob := if sf st = 0 /\ En.ixf l = 0 /\ Ru.rf R = 0 then (ryF st l R (En.cl l) 0 st l).2 else (0, [], [])
theorem rr_store {st : List Ob} {l : List En.Ob} {R : List Ru.Ob} (h : ¬ sf st = 0) : rrC st l R = sf st /\ rrZ st l R = (0, [], []) := ⟨if_neg h, if_neg (fun c => h c.1)⟩
theorem rr_index {st : List Ob} {l : List En.Ob} {R : List Ru.Ob} (h1 : sf st = 0) (h : ¬ En.ixf l = 0) : rrC st l R = En.ixf l /\ rrZ st l R = (0, [], []) := ⟨by unfold rrC; rw [if_pos h1, if_neg h], if_neg (fun c => h c.2.1)⟩
theorem rr_rules {st : List Ob} {l : List En.Ob} {R : List Ru.Ob} (h1 : sf st = 0) (h2 : En.ixf l = 0) (h : ¬ Ru.rf R = 0) : rrC st l R = Ru.rf R /\ rrZ st l R = (0, [], []) := ⟨by unfold rrC; rw [if_pos h1, if_pos h2, if_neg h], if_neg (fun c => h c.2.2)⟩
theorem rr_ok {st : List Ob} {l : List En.Ob} {R : List Ru.Ob} (h1 : sf st = 0) (h2 : En.ixf l = 0) (h : Ru.rf R = 0) : rrC st l R = (ryF st l R (En.cl l) 0 st l).1 /\ rrZ st l R = (ryF st l R (En.cl l) 0 st l).2 := ⟨by unfold rrC; rw [if_pos h1, if_pos h2, if_pos h], if_pos ⟨h1, h2, h⟩⟩
end Go.Proofs.YtgincoiehbdphaaGreatDoor.Ry
set_option linter.unusedVariables false
namespace Go.Proofs.YtgincoiehbdphaaGreatDoor
open Go.ChangeShapes Go.WideShapes Go.ChangeAt Go.RowKit
theorem Sh.ofBlock {w w' : World} {b : Nat} {l : List Ob} (h : Sh w b l) (e : w'.heap[b]? = w.heap[b]?) : Sh w' b l := by
 obtain ⟨D, ⟨es, clock, hb, rest⟩, h2⟩ := h
 exact ⟨D, ⟨es, clock, by rw [e]; exact hb, rest⟩, h2⟩
theorem frAdd {b : Nat} {w w' : World} (h : Below b w w') (hz : w.heap.size <= w'.heap.size) (hp : PK b (b + 1) w w') : Fr b (b + 2) w w' :=
 ⟨h.os, h.tape, h.output, hz, fun k hk hne => hp k hk (by omega) (by omega)⟩
theorem Fr.sh {lo hi b : Nat} {w w' : World} {l : List Ob} (h : Fr lo hi w w') (hs : Sh w b l) (hb : b < lo \/ hi <= b) : Sh w' b l := hs.ofBlock (h.block b hs.lt hb)
theorem Fr.rf {lo hi b : Nat} {w w' : World} {vs : List Value} (h : Fr lo hi w w') (hr : Rf w b vs) (hlt : b < w.heap.size) (hb : b < lo \/ hi <= b) : Rf w' b vs := hr.ofBlock (h.block b hlt hb)
end Go.Proofs.YtgincoiehbdphaaGreatDoor
namespace Go.Proofs.YtgincoiehbdphaaGreatDoor.Ry
open Go.ChangeShapes Go.WideShapes Go.ChangeAt Go.RowKit
def RP (c : Int) (Z : Int × List Ob × List En.Ob) (w : World) (e : Ending) (w' : World) : Prop := ∃ vS vE, e = .returned (.agg #[.int .i64 c, .int .i64 Z.1, vS, vE]) /\ w'.ownsRow w.heap.size 67 3 vS Z.2.1.length (ocells Z.2.1) /\ w'.ownsRow w.heap.size 106 4 vE Z.2.2.length (En.ocells Z.2.2) /\ (∀ j, vS.ownBlock = some j -> vE.ownBlock ≠ some j) /\ Below w.heap.size w w'
theorem rp_nil {c d : Int} {Z : Int × List Ob × List En.Ob} {w w' : World} {q : Nat} (hq : w.heap.size = q) (h1 : d = c) (h2 : Z = (0, [], [])) (hB : Below q w w') : RP d Z w (.returned (.agg #[.int .i64 c, .int .i64 0, .slice none 0 0, .slice none 0 0])) w' := by
 subst hq h1 h2
 exact ⟨_, _, rfl, ⟨rfl, .inl ⟨rfl, rfl⟩⟩, ⟨rfl, .inl ⟨rfl, rfl⟩⟩, fun j hj => (by cases hj), hB⟩
theorem rp_of {d e0 : Int} {Z : Int × List Ob × List En.Ob} {O : List Ob} {I : List En.Ob} {vS vE : Value} {w w' : World} {q : Nat} (hq : w.heap.size = q) (h1 : d = 0) (h2 : Z = (e0, O, I)) (hS : w'.ownsRow q 67 3 vS O.length (ocells O)) (hE : w'.ownsRow q 106 4 vE I.length (En.ocells I)) (hd : ∀ j, vS.ownBlock = some j -> vE.ownBlock ≠ some j) (hB : Below q w w') : RP d Z w (.returned (.agg #[.int .i64 0, .int .i64 e0, vS, vE])) w' := by
 subst hq h1 h2
 exact ⟨_, _, rfl, hS, hE, hd, hB⟩
theorem ry_len {st : List Ob} {l : List En.Ob} {R : List Ru.Ob} {c : List ByteArray} (hc : c = En.cl l) (hl : En.ixf l = 0) (hls : En.SmallO l) (hR : Ru.rf R = 0) : ∀ n k, k + n = c.length -> ∀ d O I, Inv l c k O I -> (ryF st l R (c.drop k) d O I).2.2.1.length <= 200 /\ (ryF st l R (c.drop k) d O I).2.2.2.length <= 200 := by
 intro n
 induction n with
 | zero =>
  intro k hk d O I h
  rw [ry_end (by omega)]
  exact ⟨h.len, (En.ixf_zero h.ix).1⟩
 | succ n ih =>
  intro k hk d O I h
  cases e : ryOk st l R (c.getD k ByteArray.empty) with
  | false =>
   rw [ry_skip (by omega) rfl e]
   exact ih (k + 1) (by omega) _ _ _ h.skip
  | true =>
   by_cases e2 : pC O 1 (ryP st l R (c.getD k ByteArray.empty)) = 0
   ·rw [ry_take (by omega) rfl e e2]
    exact ih (k + 1) (by omega) _ _ _ (h.take hc hl hls hR (by omega) rfl e e2).1
   ·rw [ry_full (by omega) rfl e e2]
    exact ⟨by simp, by simp⟩
theorem rr_len (st : List Ob) (l : List En.Ob) (R : List Ru.Ob) (hls : En.SmallO l) : (rrZ st l R).2.1.length <= 200 /\ (rrZ st l R).2.2.length <= 200 := by
 by_cases h1 : sf st = 0
 ·by_cases h2 : En.ixf l = 0
  ·by_cases h3 : Ru.rf R = 0
   ·rw [(rr_ok h1 h2 h3).2]
    have := ry_len (st := st) (R := R) rfl h2 hls h3 (En.cl l).length 0 (by omega) 0 st l (Inv.start h1 h2 hls)
    rw [List.drop_zero] at this
    exact this
   ·rw [(rr_rules h1 h2 h3).2]; exact ⟨by simp, by simp⟩
  ·rw [(rr_index h1 h2).2]; exact ⟨by simp, by simp⟩
 ·rw [(rr_store h1).2]; exact ⟨by simp, by simp⟩
end Go.Proofs.YtgincoiehbdphaaGreatDoor.Ry
set_option linter.unusedVariables false
namespace Go.Proofs.YtgincoiehbdphaaGreatDoor.RyR
open Go.ChangeShapes Go.WideShapes Go.ChangeAt Go.RowKit
theorem ownApart {w w' : World} {base : Nat} {e : TypeId} {size : Nat} {v : Value} {n : Nat} {xs : List Value} {row : Option Nat} (hg : w.grownBy w' row) (ho : w.ownsRow base e size v n xs) (hd : ∀ j, row = some j -> v.ownBlock ≠ some j) : w'.ownsRow base e size v n xs := by
 cases row with
 | none => exact (Fr.ofGrown (lo := 0) (hi := 0) hg (fun j hj => by cases hj)).own ho (fun _ _ => .inr (Nat.zero_le _))
 | some b =>
  refine (Fr.ofGrown (lo := b) (hi := b + 1) hg (fun j hj => by cases hj; omega)).own ho (fun j hj => ?_)
  have hne : j ≠ b := fun e => hd b rfl (e ▸ hj)
  omega
theorem rsApart {w w' : World} {b : Nat} {vs : List Value} {row : Option Nat} (hg : w.grownBy w' row) (h : Rs w b vs) (hd : row ≠ some b) : Rs w' b vs := by
 cases row with
 | none => exact (Fr.ofGrown (lo := 0) (hi := 0) hg (fun j hj => by cases hj)).rs h (.inr (Nat.zero_le _))
 | some c => exact (Fr.ofGrown (lo := c) (hi := c + 1) hg (fun j hj => by cases hj; omega)).rs h (by have : c ≠ b := fun e => hd (by rw [e]); omega)
set_option maxHeartbeats 2000000 in
theorem eqR (y0 : Int) (y1 : Int) (p2 q2 : Option Addr) (cp2 cq2 : Nat) (l2 : List Ob) (p3 q3 : Option Addr) (cp3 cq3 : Nat) (l3 : List En.Ob) (w : World) (hp2 : OB w.heap.size w p2 l2) (hq2 : OB w.heap.size w q2 l2) (hn2 : l2.length <= 1048576) (hp3 : En.OB w.heap.size w p3 l3) (hq3 : En.OB w.heap.size w q3 l3) (hn3 : l3.length <= 1048576) :
  Calls Tryz.prog 22 #[.agg #[.int .i64 y0, .int .i64 y1, .slice p2 l2.length cp2, .slice p3 l3.length cp3], .agg #[.int .i64 y0, .int .i64 y1, .slice q2 l2.length cq2, .slice q3 l3.length cq3]] w fun e w' => e = .returned (.bool true) /\ Below w.heap.size w w' := by
 have hc0 : (y0 != y0) = false := by simp
 have hc1 : (y1 != y1) = false := by simp
 obtain ⟨W2, hW2⟩ : ∃ W, (w.alloc (.cells #[.int .i64 y0, .int .i64 y1, .slice p2 l2.length cp2, .slice p3 l3.length cp3] 46)).alloc (.cells #[.int .i64 y0, .int .i64 y1, .slice q2 l2.length cq2, .slice q3 l3.length cq3] 46) = W := ⟨_, rfl⟩
 have B0 : Below w.heap.size w W2 := by rw [<- hW2]; exact ((Below.refl _ _).alloc (Nat.le_refl _) _).alloc (by simp) _
 have RA : Rs W2 w.heap.size [.int .i64 y0, .int .i64 y1, .slice p2 l2.length cp2, .slice p3 l3.length cp3] := by rw [<- hW2]; exact (Fr.ofAlloc (lo := 0) (hi := 0) _ _).rs (Rs.new w #[.int .i64 y0, .int .i64 y1, .slice p2 l2.length cp2, .slice p3 l3.length cp3] _) (.inr (Nat.zero_le _))
 have za : (w.alloc (.cells #[.int .i64 y0, .int .i64 y1, .slice p2 l2.length cp2, .slice p3 l3.length cp3] 46)).heap.size = w.heap.size + 1 := by simp
 have RB : Rs W2 (w.heap.size + 1) [.int .i64 y0, .int .i64 y1, .slice q2 l2.length cq2, .slice q3 l3.length cq3] := by rw [<- hW2, <- za]; exact Rs.new _ #[.int .i64 y0, .int .i64 y1, .slice q2 l2.length cq2, .slice q3 l3.length cq3] _
 clear za
 have hE2 := fun w h1 h2 => eqObjectS p2 q2 cp2 cq2 l2 w h1 h2 hn2
 have hE3 := fun w h1 h2 => En.eqEntryS p3 q3 cp3 cq3 l3 w h1 h2 hn3
 go_enter Tryz.func22, Tryz.ntmps22
 have ea0 := RA 0 _ rfl
 have eb0 := RB 0 _ rfl
 have ea1 := RA 1 _ rfl
 have eb1 := RB 1 _ rfl
 have ea2 := RA 2 _ rfl
 have eb2 := RB 2 _ rfl
 go_wp2_with fail
 refine (hE2 _ ((hp2.below B0).mono B0.size) ((hq2.below B0).mono B0.size)).mono ?_; rintro e w1 ⟨rfl, b⟩
 have B1 : Below w.heap.size w w1 := B0.trans (b.mono B0.size)
 replace RA := (Fr.ofBelow (lo := 0) (hi := 0) b).rs RA (.inr (Nat.zero_le _))
 replace RB := (Fr.ofBelow (lo := 0) (hi := 0) b).rs RB (.inr (Nat.zero_le _))
 clear b hE2 B0 ea0 eb0 ea1 eb1 ea2 eb2 hW2
 have ea3 := RA 3 _ rfl
 have eb3 := RB 3 _ rfl
 go_wp2_with fail
 refine (hE3 _ ((hp3.below B1).mono B1.size) ((hq3.below B1).mono B1.size)).mono ?_; rintro e w2 ⟨rfl, b⟩
 have B2 : Below w.heap.size w w2 := B1.trans (b.mono B1.size)
 replace RA := (Fr.ofBelow (lo := 0) (hi := 0) b).rs RA (.inr (Nat.zero_le _))
 replace RB := (Fr.ofBelow (lo := 0) (hi := 0) b).rs RB (.inr (Nat.zero_le _))
 clear b hE3 B1 ea3 eb3
 have BH : Hid (Below w.heap.size w w2) := B2
 clear B2 RA RB
 go_wp2_with fail
 go_ret
 exact ⟨rfl, BH.out⟩
set_option maxHeartbeats 2000000 in
theorem markR (lo hi : Nat) (y0 : Int) (y1 : Int) (p2 : Option Addr) (n2 cp2 : Nat) (xs2 : List Value) (p3 : Option Addr) (n3 cp3 : Nat) (xs3 : List Value) (m : Nat) (w : World) (h1 : 1 <= m) (h2 : m + 3 * n2 + 4 * n3 <= 4194304) (ho2 : w.ownsRow lo 67 3 (.slice p2 n2 cp2) n2 xs2) (hb2 : ∀ j, (Value.slice p2 n2 cp2).ownBlock = some j -> j < hi) (ho3 : w.ownsRow lo 106 4 (.slice p3 n3 cp3) n3 xs3) (hb3 : ∀ j, (Value.slice p3 n3 cp3).ownBlock = some j -> j < hi) (d23 : ∀ j, (Value.slice p2 n2 cp2 : Value).ownBlock = some j -> (Value.slice p3 n3 cp3 : Value).ownBlock ≠ some j) :
  Calls Tryz.prog 27 #[.agg #[.int .i64 y0, .int .i64 y1, .slice p2 n2 cp2, .slice p3 n3 cp3], .int .i64 m] w fun e w' => e = .returned (.int .i64 ((m + 3 * n2 + 4 * n3 : Nat) : Int)) /\ w'.ownsRow lo 67 3 (.slice p2 n2 cp2) n2 (ocells (mkO (m) n2)) /\ w'.ownsRow lo 106 4 (.slice p3 n3 cp3) n3 (En.ocells (En.mkO (m + 3 * n2) n3)) /\ Fr lo hi w w' := by
 have hM2 := fun w ho => markObjectS lo p2 n2 cp2 (m) xs2 w (by omega) (by omega) ho
 have hM3 := fun w ho => En.markEntryS lo p3 n3 cp3 (m + 3 * n2) xs3 w (by omega) (by omega) ho
 obtain ⟨m1, hm1⟩ : ∃ k, m + 3 * n2 = k := ⟨_, rfl⟩
 rw [hm1] at hM2 hM3 ⊢
 clear hm1
 have F0 : Fr lo hi w (w.alloc (.cells #[.int .i64 y0, .int .i64 y1, .slice p2 n2 cp2, .slice p3 n3 cp3] 46)) := Fr.ofAlloc _ _
 obtain ⟨W1, hW1⟩ : ∃ W, w.alloc (.cells #[.int .i64 y0, .int .i64 y1, .slice p2 n2 cp2, .slice p3 n3 cp3] 46) = W := ⟨_, rfl⟩
 rw [hW1] at F0
 have RA : Rs W1 w.heap.size [.int .i64 y0, .int .i64 y1, .slice p2 n2 cp2, .slice p3 n3 cp3] := by rw [<- hW1]; exact Rs.new w #[.int .i64 y0, .int .i64 y1, .slice p2 n2 cp2, .slice p3 n3 cp3] _
 have o2 := ho2.alloc (.cells #[.int .i64 y0, .int .i64 y1, .slice p2 n2 cp2, .slice p3 n3 cp3] 46)
 rw [hW1] at o2
 have na2 : (Value.slice p2 n2 cp2 : Value).ownBlock ≠ some w.heap.size := fun e => by have := (ho2.lt _ e).2; omega
 have o3 := ho3.alloc (.cells #[.int .i64 y0, .int .i64 y1, .slice p2 n2 cp2, .slice p3 n3 cp3] 46)
 rw [hW1] at o3
 have na3 : (Value.slice p3 n3 cp3 : Value).ownBlock ≠ some w.heap.size := fun e => by have := (ho3.lt _ e).2; omega
 have lt2 := fun j hj => (ho2.lt j hj).1
 have lt3 := fun j hj => (ho3.lt j hj).1
 clear ho2 ho3
 go_enter Tryz.func27, Tryz.ntmps27
 have ea := RA 2 _ rfl
 go_wp2_with fail
 refine (hM2 _ o2).mono ?_; rintro e x1 ⟨rfl, z2, g⟩
 replace RA := rsApart g RA na2
 have F1 := F0.trans (Fr.ofGrown (lo := lo) (hi := hi) g (fun j hj => ⟨lt2 j hj, hb2 j hj⟩))
 replace o3 := ownApart g o3 (fun j hj => d23 j hj)
 clear g o2 hM2 F0 ea hW1
 have ea := RA 3 _ rfl
 go_wp2_with fail
 refine (hM3 _ o3).mono ?_; rintro e x2 ⟨rfl, z3, g⟩
 replace RA := rsApart g RA na3
 have F2 := F1.trans (Fr.ofGrown (lo := lo) (hi := hi) g (fun j hj => ⟨lt3 j hj, hb3 j hj⟩))
 replace z2 := ownApart g z2 (fun j hj => fun e => d23 j e hj)
 clear g o3 hM3 F1 ea
 clear RA
 go_wp2_with fail
 go_ret
 exact ⟨rfl, z2, z3, F2⟩
set_option maxHeartbeats 2000000 in
theorem heldR (y0 : Int) (y1 : Int) (p2 : Option Addr) (n2 cp2 : Nat) (p3 : Option Addr) (n3 cp3 : Nat) (m : Nat) (w : World) (h1 : 1 <= m) (h2 : m + 3 * n2 + 4 * n3 <= 4194304) (hs2 : OB w.heap.size w p2 (mkO (m) n2)) (hs3 : En.OB w.heap.size w p3 (En.mkO (m + 3 * n2) n3)) :
  Calls Tryz.prog 28 #[.agg #[.int .i64 y0, .int .i64 y1, .slice p2 n2 cp2, .slice p3 n3 cp3], .int .i64 m] w fun e w' => e = .returned (.int .i64 ((m + 3 * n2 + 4 * n3 : Nat) : Int)) /\ Below w.heap.size w w' := by
 have hM2 := fun w h => heldObjectS p2 n2 cp2 (m) w (by omega) (by omega) h
 have hM3 := fun w h => En.heldEntryS p3 n3 cp3 (m + 3 * n2) w (by omega) (by omega) h
 obtain ⟨m1, hm1⟩ : ∃ k, m + 3 * n2 = k := ⟨_, rfl⟩
 rw [hm1] at hM2 hM3 hs3 ⊢
 clear hm1
 have hp1 : ¬ ((m1 : Nat) : Int) < 0 := by omega
 obtain ⟨m2, hm2⟩ : ∃ k, m1 + 4 * n3 = k := ⟨_, rfl⟩
 rw [hm2] at hM3 ⊢
 clear hm2
 have hp2 : ¬ ((m2 : Nat) : Int) < 0 := by omega
 obtain ⟨W1, hW1⟩ : ∃ W, w.alloc (.cells #[.int .i64 y0, .int .i64 y1, .slice p2 n2 cp2, .slice p3 n3 cp3] 46) = W := ⟨_, rfl⟩
 have B0 : Below w.heap.size w W1 := by rw [<- hW1]; exact (Below.refl _ _).alloc (Nat.le_refl _) _
 have RA : Rs W1 w.heap.size [.int .i64 y0, .int .i64 y1, .slice p2 n2 cp2, .slice p3 n3 cp3] := by rw [<- hW1]; exact Rs.new w #[.int .i64 y0, .int .i64 y1, .slice p2 n2 cp2, .slice p3 n3 cp3] _
 go_enter Tryz.func28, Tryz.ntmps28
 have ea := RA 2 _ rfl
 go_wp2_with fail
 refine (hM2 _ ((hs2.below B0).mono B0.size)).mono ?_; rintro e w1 ⟨rfl, b⟩
 have B1 : Below w.heap.size w w1 := B0.trans (b.mono B0.size)
 replace RA := (Fr.ofBelow (lo := 0) (hi := 0) b).rs RA (.inr (Nat.zero_le _))
 clear b hM2 B0 ea hW1
 have ea := RA 3 _ rfl
 go_wp2_with fail
 refine (hM3 _ ((hs3.below B1).mono B1.size)).mono ?_; rintro e w2 ⟨rfl, b⟩
 have B2 : Below w.heap.size w w2 := B1.trans (b.mono B1.size)
 replace RA := (Fr.ofBelow (lo := 0) (hi := 0) b).rs RA (.inr (Nat.zero_le _))
 clear b hM3 B1 ea
 have BH : Hid (Below w.heap.size w w2) := B2
 clear B2 RA
 go_wp2_with fail
 go_ret
 exact ⟨rfl, BH.out⟩
end Go.Proofs.YtgincoiehbdphaaGreatDoor.RyR
