/- Lists of objects that rise; where a new one goes; what was collected out of a map. No statement is proved here. -/
import Derived.Test.YtcfnkndbhpdfnaaGreatDoorShMQ
import Derived.Maps.RangeWalk
namespace Go.Proofs.YtcfnkndbhpdfnaaGreatDoor
open Go.ChangeShapes Go.WideShapes Go.ChangeAt Go.RowKit Go.Maps
def ltO (o p : Ob) : Bool := Op.bytesLess o.1.toList p.1.toList
def Asc (l : List Ob) : Prop := l.Pairwise fun o p => ltO o p = true
theorem asc_of {l : List Ob} (h : sf l = 0) : Asc l := by
 unfold Asc
 rw [List.pairwise_iff_getElem]
 intro i j hi hj hij
 have := sf_less h i j hij hj
 unfold ltO
 simpa [List.getD, hi, hj] using this
theorem ltO_asymm {o p : Ob} (h : ltO o p = true) (k : ltO p o = true) : False := by
 have := bl_trans _ _ _ h k
 rw [bl_irr] at this; cases this
theorem asc_eq {l m : List Ob} (hp : l.Perm m) (hl : Asc l) (hm : Asc m) : l = m :=
 hp.eq_of_pairwise (le := fun o p => ltO o p = true) (fun _ _ _ _ h1 h2 => (ltO_asymm h1 h2).elim) hl hm
theorem asc_ids {l : List Ob} (h : Asc l) : (l.map fun o => o.1).Nodup := by
 refine List.pairwise_map.2 (List.Pairwise.imp ?_ h)
 intro o p hl e
 unfold ltO at hl
 rw [e, bl_irr] at hl; cases hl
theorem ids_nodup {l : List Ob} (h : (l.map fun o => o.1).Nodup) : l.Nodup := List.Pairwise.imp (fun hne e => hne (by rw [e])) (List.pairwise_map.1 h)
theorem asc_sorted {l m : List Ob} (hp : m.Perm l) (hl : (l.map fun o => o.1).Nodup) (hs : m.Pairwise fun o p => ltO p o = false) : Asc m := by
 have hd : (m.map fun o => o.1).Nodup := (hp.map _).nodup_iff.2 hl
 have := (List.pairwise_map.1 hd).and hs
 refine List.Pairwise.imp ?_ this
 rintro o p ⟨h1, h2⟩
 unfold ltO at h2 ⊢
 rcases bl_total o.1.toList p.1.toList with h | h | h
 ·exact h
 ·exact absurd (bytes_inj2 h) h1
 ·rw [h] at h2; cases h2
def insAt (l : List Ob) (id : ByteArray) : Nat := (l.takeWhile fun o => Op.bytesLess o.1.toList id.toList).length
def insO (l : List Ob) (o : Ob) : List Ob := l.take (insAt l o.1) ++ o :: l.drop (insAt l o.1)
theorem insAt_le (l : List Ob) (id : ByteArray) : insAt l id <= l.length := (List.takeWhile_sublist _).length_le
theorem insAt_take (l : List Ob) (id : ByteArray) : ∀ j, j < insAt l id -> Op.bytesLess (l.getD j onil).1.toList id.toList = true := by
 induction l with
 | nil => intro j hj; simp [insAt] at hj
 | cons o t ih =>
  intro j hj
  unfold insAt at hj
  rw [List.takeWhile_cons] at hj
  split at hj
  ·rename_i h
   cases j with
   | zero => exact h
   | succ j => exact ih j (by simpa [insAt] using hj)
  ·simp at hj
theorem insAt_at (l : List Ob) (id : ByteArray) (h : insAt l id < l.length) : Op.bytesLess (l.getD (insAt l id) onil).1.toList id.toList = false := by
 induction l with
 | nil => simp at h
 | cons o t ih =>
  unfold insAt at h ⊢
  rw [List.takeWhile_cons] at h ⊢
  split
  ·rename_i hh
   rw [if_pos hh] at h
   exact ih (by simpa [insAt] using h)
  ·rename_i hh
   simpa using hh
theorem insO_perm (l : List Ob) (o : Ob) : (insO l o).Perm (l ++ [o]) := by
 unfold insO
 refine List.perm_middle.trans ?_
 rw [List.take_append_drop]
 exact (List.perm_append_comm (l₁ := [o]) (l₂ := l))
theorem insO_asc {l : List Ob} {o : Ob} (h : Asc l) (hn : ∀ p ∈ l, p.1 ≠ o.1) : Asc (insO l o) := by
 unfold Asc insO
 have h1 := List.pairwise_append.1 (show ((l.take (insAt l o.1)) ++ (l.drop (insAt l o.1))).Pairwise _ by rw [List.take_append_drop]; exact h)
 have hlt : ∀ p ∈ l.take (insAt l o.1), ltO p o = true := fun p hp => by
  obtain ⟨j, hj, rfl⟩ := List.getElem_of_mem hp
  have hj2 : j < insAt l o.1 := by simp at hj; omega
  have hj3 : j < l.length := by simp at hj; omega
  have := insAt_take l o.1 j hj2
  unfold ltO
  simpa [List.getD, hj3] using this
 have hgt : ∀ p ∈ l.drop (insAt l o.1), ltO o p = true := fun p hp => by
  have hpl : p ∈ l := List.mem_of_mem_drop hp
  have hle : insAt l o.1 < l.length := by
   have := List.length_pos_of_mem hp
   simp at this; omega
  have h0 := insAt_at l o.1 hle
  have hm := ob_mem l (insAt l o.1) hle
  have h0' : ltO o (l.getD (insAt l o.1) onil) = true := by
   unfold ltO
   rcases bl_total o.1.toList (l.getD (insAt l o.1) onil).1.toList with h | h | h
   ·exact h
   ·exact absurd (bytes_inj2 h).symm (hn _ hm)
   ·rw [h] at h0; cases h0
  have e : l.drop (insAt l o.1) = l.getD (insAt l o.1) onil :: l.drop (insAt l o.1 + 1) := by
   rw [List.drop_eq_getElem_cons hle]; simp [List.getD, hle]
  rw [e] at hp
  rcases List.mem_cons.1 hp with rfl | hp
  ·exact h0'
  ·have h2 := h1.2.1
   rw [e] at h2
   exact bl_trans _ _ _ h0' ((List.pairwise_cons.1 h2).1 p hp)
 refine List.pairwise_append.2 ⟨h1.1, List.pairwise_cons.2 ⟨hgt, h1.2.1⟩, fun p hp q hq => ?_⟩
 rcases List.mem_cons.1 hq with rfl | hq
 ·exact hlt p hp
 ·exact h1.2.2 p hp q hq
def Got (l : List Ob) (left : Lit -> Bool) (acc : List Ob) : Prop := acc.Nodup /\ ∀ o, o ∈ acc ↔ o ∈ l /\ left (kl o.1) = false
def Tells (D : DataW Unit) (l : List Ob) : Prop := size D = l.length /\ (∀ o ∈ l, o.1.size = 5 /\ has D (kl o.1) = true /\ ∀ z, D.atKey (kl o.1) z = obD o) /\ (∀ z : Lit, has D z = true -> ∃ o ∈ l, z = kl o.1)
theorem Got.start {D : DataW Unit} {l : List Ob} (h : Tells D l) : Got l (has D) [] :=
 ⟨List.nodup_nil, fun o => by
  constructor
  ·intro ho; cases ho
  ·rintro ⟨ho, hf⟩
   rw [(h.2.1 o ho).2.1] at hf; cases hf⟩
theorem Tells.entry {D : DataW Unit} {l : List Ob} (h : Tells D l) {z : Lit} {c : Ob} {y : DataW Unit × List MemPlace} (hv : obR (obV c) = some y) (hat : ∀ zd, D.atKey z zd = y.1) : c ∈ l /\ z = kl c.1 := by
 obtain ⟨o, ho, rfl⟩ := h.2.2 z (has_true_of_atKey hat)
 rw [obR_mk] at hv
 have e1 := (h.2.1 o ho).2.2 (.lit (.int .i64 0))
 rw [hat] at e1
 have e2 : y.1 = obD c := by
  have := Option.some.inj hv
  rw [<- this]
 rw [e2] at e1
 have e3 := obD_inj e1
 rw [e3]
 exact ⟨ho, rfl⟩
theorem Got.step {D : DataW Unit} {l acc : List Ob} {left : Lit -> Bool} (h : Tells D l) (hg : Got l left acc) {c : Ob} (hc : c ∈ l) (hl : left (kl c.1) = true) : Got l (fun z => left z && !z.sameKey (kl c.1)) (acc ++ [c]) := by
 have hnew : c ∉ acc := fun hx => by
  have := ((hg.2 c).1 hx).2
  rw [hl] at this; cases this
 refine ⟨List.nodup_append.2 ⟨hg.1, by simp, fun a ha b hb => by simp at hb; subst hb; exact fun e => hnew (e ▸ ha)⟩, fun o => ?_⟩
 by_cases ho : o = c
 ·subst ho
  have := WideAt.sameKey_self (kl_key o.1)
  simp [hc, this]
 ·simp only [List.mem_append, List.mem_singleton, ho, or_false]
  rw [hg.2 o]
  constructor
  ·rintro ⟨h1, h2⟩
   exact ⟨h1, by rw [h2]; rfl⟩
  ·rintro ⟨h1, h2⟩
   refine ⟨h1, ?_⟩
   have hne : o.1 ≠ c.1 := fun e => ho (by
    have e1 := (h.2.1 o h1).2.2 (.lit (.int .i64 0))
    have e2 := (h.2.1 c hc).2.2 (.lit (.int .i64 0))
    rw [e, e2] at e1
    exact (obD_inj e1).symm)
   have hk := sameKey_ne (kl_ne (h.2.1 o h1).1 (h.2.1 c hc).1 hne)
   rw [hk] at h2
   simpa using h2
theorem Got.perm {l acc : List Ob} {left : Lit -> Bool} (hg : Got l left acc) (hd : l.Nodup) (hl : ∀ z, left z = false) : acc.Perm l :=
 (List.perm_ext_iff_of_nodup hg.1 hd).2 fun o => by rw [hg.2 o, hl]; simp
theorem Sh.tells {w : World} {b : Nat} {l : List Ob} (h : Sh w b l) : ∃ D : DataW Unit, w.ownsMap Tryz.prog 119 obR b l.length D /\ Tells D l := by
 obtain ⟨D, h1, _, h3, h4, h5⟩ := h
 exact ⟨D, h1, h3, h4, h5⟩
end Go.Proofs.YtcfnkndbhpdfnaaGreatDoor
namespace Go.Proofs.YtcfnkndbhpdfnaaGreatDoor
open Go.ChangeShapes Go.WideShapes Go.ChangeAt Go.RowKit
theorem ocell_app (l m : List Ob) (j : Nat) : ocell (l ++ m) (l.length * 3 + j) = ocell m j := by
 unfold ocell
 have e1 : (l.length * 3 + j) % 3 = j % 3 := by omega
 have e2 : (l.length * 3 + j) / 3 = l.length + j / 3 := by omega
 rw [e1, e2]
 have e3 : (l ++ m).getD (l.length + j / 3) onil = m.getD (j / 3) onil := by rw [List.getD, List.getD, List.getElem?_append_right (by omega), show l.length + j / 3 - l.length = j / 3 by omega]
 rw [e3]
theorem ocell_left (l m : List Ob) (j : Nat) (h : j < l.length * 3) : ocell (l ++ m) j = ocell l j := by
 unfold ocell
 have h3 : j / 3 < l.length := by omega
 have e3 : (l ++ m).getD (j / 3) onil = l.getD (j / 3) onil := by simp [List.getD, List.getElem?_append_left h3]
 rw [e3]
theorem ocells_app (l m : List Ob) : ocells (l ++ m) = ocells l ++ ocells m := by
 unfold ocells
 rw [List.length_append, Nat.add_mul, rowG_append]
 congr 1
 ·exact rowG_congr fun j hj => ocell_left l m j hj
 ·exact rowG_congr fun j _ => ocell_app l m j
theorem ocells_one (o : Ob) : ocells [o] = [.string o.1, .int .i64 o.2.1, .string o.2.2] := by
 unfold ocells rowG
 show (List.range 3).map (ocell [o]) = _
 rw [show List.range 3 = [0, 1, 2] from rfl]
 simp [ocell]
end Go.Proofs.YtcfnkndbhpdfnaaGreatDoor
namespace Go.Proofs.YtcfnkndbhpdfnaaGreatDoor
open Go.ChangeShapes Go.WideShapes Go.ChangeAt Go.RowKit

theorem newsO {B : Nat} {w : World} {g off : Nat} {l : List Ob} (h : OB B w (some ⟨g, off, none⟩) l) : ∀ j u, (ocells l)[j]? = some u -> w.cell? ((⟨g, off, none⟩ : Addr).add j) = some u := by
  intro j u hj
  have hl : j < l.length * 3 := by
    have := (List.getElem?_eq_some_iff.1 hj).1
    rw [ocells_length] at this; exact this
  obtain ⟨g', off', e, _, d0, d1, d2⟩ := h (j / 3) (by omega)
  simp only [Option.some.injEq, Addr.mk.injEq] at e
  obtain ⟨rfl, rfl, _⟩ := e
  rw [add_plain]
  rw [ocells, rowG_at _ _ _ hl] at hj
  have hm : j % 3 = 0 \/ j % 3 = 1 \/ j % 3 = 2 := by omega
  rcases hm with e | e | e
  · rw [show j = j / 3 * 3 by omega, ocell0] at hj
    rw [show off + j = off + j / 3 * 3 by omega, d0]; exact hj
  · rw [show j = j / 3 * 3 + 1 by omega, ocell1] at hj
    rw [show off + j = off + j / 3 * 3 + 1 by omega, d1]; exact hj
  · rw [show j = j / 3 * 3 + 2 by omega, ocell2] at hj
    rw [show off + j = off + j / 3 * 3 + 2 by omega, d2]; exact hj
theorem oneO (l : List Ob) : ∀ u ∈ ocells l, u.oneCell' = true := by
  intro u hu
  unfold ocells rowG at hu
  obtain ⟨t, _, rfl⟩ := List.mem_map.1 hu
  unfold ocell
  split
  · rfl
  · split <;> rfl
theorem OB.takeO {B : Nat} {w : World} {a : Option Addr} {l : List Ob} (h : OB B w a l) (n : Nat) : OB B w a (l.take n) := fun k hk => by
  have hk1 : k < n /\ k < l.length := by simp at hk; omega
  have e : (l.take n).getD k onil = l.getD k onil := by simp [List.getD, hk1.1]
  rw [e]; exact h k hk1.2
theorem OB.dropO {B : Nat} {w : World} {g off : Nat} {l : List Ob} (h : OB B w (some ⟨g, off, none⟩) l) (n : Nat) : OB B w (some ⟨g, off + n * 3, none⟩) (l.drop n) := fun k hk => by
  have hk1 : n + k < l.length := by simp at hk; omega
  have e : (l.drop n).getD k onil = l.getD (n + k) onil := by simp [List.getD, List.getElem?_drop]
  obtain ⟨g', off', e1, hg, d0, d1, d2⟩ := h (n + k) hk1
  simp only [Option.some.injEq, Addr.mk.injEq] at e1
  obtain ⟨rfl, rfl, _⟩ := e1
  rw [e]
  refine ⟨g, off + n * 3, rfl, hg, ?_, ?_, ?_⟩
  · rw [show off + n * 3 + k * 3 = off + (n + k) * 3 by omega]; exact d0
  · rw [show off + n * 3 + k * 3 + 1 = off + (n + k) * 3 + 1 by omega]; exact d1
  · rw [show off + n * 3 + k * 3 + 2 = off + (n + k) * 3 + 2 by omega]; exact d2
theorem newsCells (w : World) (vs : Array Value) (t : TypeId) : ∀ j u, vs.toList[j]? = some u -> (w.alloc (.cells vs t)).cell? ((⟨w.heap.size, 0, none⟩ : Addr).add j) = some u := fun j u hj => by
  rw [add_plain, Nat.zero_add]; exact Rs.new w vs t j u hj
theorem wpList_appO {w : World} {ops : Array Oper} {rest : List Oper} {o : Oper} {a : Act} {Q : Exit -> Act -> World -> Prop} (hgd : o.guard = none) (s x : Operand)
    (ho : o.op = .call { callee := .builtin .append, args := #[s, x], argTypes := #[27, 27] })
    (base : Nat) (v : Value) (S0 : List Ob) (hs : a.eval s = v) (hown : w.ownsRow base 50 3 v S0.length (ocells S0))
    (AD : Addr) (cx : Nat) (S1 : List Ob) (hx : a.eval x = .slice (some AD) S1.length cx) (hx2 : ∀ j u, (ocells S1)[j]? = some u -> w.cell? (AD.add j) = some u)
    (hb : S0.length + S1.length <= 2097152) (hbase : base <= w.heap.size)
    (h : ∀ v' w', w'.ownsRow base 50 3 v' (S0 ++ S1).length (ocells (S0 ++ S1)) -> w.grownBy w' v.ownBlock -> (v' = .slice none 0 0 ↔ v = .slice none 0 0 /\ S1.length = 0) -> (v'.ownBlock = v.ownBlock \/ v'.ownBlock = some w.heap.size) -> wpList Tryz.prog ops Q rest (a.put o.dst v') w') :
    wpList Tryz.prog ops Q (o :: rest) a w := by
  obtain ⟨i0, hi, hz0, hz1, hz2⟩ := info_parts infoObj
  refine wpList_append_own_at _ hgd s x _ ho base _ i0 _ 3 40 Tryz.underlying27 hi hz0 hz1 hz2 rfl (by decide) v _ _ hs hown AD S1.length cx (ocells S1) hx (ocells_length _) hx2 (oneO _) (by unfold maxLen; omega) (by omega) hbase ?_
  intro v' w' o1 g1 n1 k1
  refine h v' w' ?_ g1 n1 k1
  rw [List.length_append, ocells_app]; exact o1
def ON (L : List Ob) (w : World) (e : Ending) (w' : World) : Prop := ∃ v, e = .returned v /\ v ≠ .slice none 0 0 /\ w'.ownsRow w.heap.size 50 3 v L.length (ocells L) /\ Below w.heap.size w w'

theorem l5Copy (g off : Nat) (c : Nat) (l : List Ob) (w : World) (h : OB w.heap.size w (some ⟨g, off, none⟩) l) (hn : l.length <= 1048576) :
    Calls Tryz.prog 21 #[.slice (some ⟨g, off, none⟩) l.length c] w fun e w' => ON l w e w' := by
  go_enter Tryz.func21, Tryz.ntmps21
  have o1 : (w.alloc (.cells #[] 50)).ownsRow w.heap.size 50 3 (.slice (some ⟨w.heap.size, 0, none⟩) 0 0) ([] : List Ob).length (ocells []) := World.ownsRow_lit w #[] 0 (Nat.le_refl _) (Nat.zero_le _) rfl
  have s1 := newsO (h.below (allocBelow w (.cells #[] 50)))
  go_wp2_with (at_builtin; refine wpList_appO rfl (.tmp 3) (.tmp 4) rfl w.heap.size _ _ rfl o1 _ _ _ rfl s1 (by simp; omega) (by simp) ?_; intro v3 w3 o3 g3 n3 _)
  have hB3 : Below w.heap.size w w3 := (allocBelow w _).grown g3 (by simp) (fun j hj => (o1.lt j hj).1)
  have hN3 : v3 ≠ .slice none 0 0 := fun e => by have := (n3.1 e).1; cases this
  simp only [List.nil_append] at o3
  clear o1 s1 g3 h n3
  go_ret
  exact ⟨_, rfl, hN3, o3, hB3⟩

def pC (l : List Ob) (k : Int) (d : ByteArray) : Int := if 0 <= fz l (idN k d) then (if (l.getD (fz l (idN k d)).toNat onil).2.2 = d then 0 else 6) else if 200 <= l.length then 2 else 0
def pL (l : List Ob) (k : Int) (d : ByteArray) : List Ob := if pC l k d = 0 then (if 0 <= fz l (idN k d) then l else insO l (idN k d, k, d)) else []
def pS (l : List Ob) (k : Int) (d : ByteArray) : ByteArray := if pC l k d = 0 then idN k d else ByteArray.empty
theorem p_same {l : List Ob} {k : Int} {d : ByteArray} {n : Nat} (h : fz l (idN k d) = n) (e : (l.getD n onil).2.2 = d) : pC l k d = 0 /\ pL l k d = l /\ pS l k d = idN k d := by
  have h0 : 0 <= fz l (idN k d) := by omega
  have e1 : pC l k d = 0 := by unfold pC; rw [if_pos h0, h, if_pos (by simpa using e)]
  exact ⟨e1, by unfold pL; rw [if_pos e1, if_pos h0], by unfold pS; rw [if_pos e1]⟩
theorem p_other {l : List Ob} {k : Int} {d : ByteArray} {n : Nat} (h : fz l (idN k d) = n) (e : ¬ (l.getD n onil).2.2 = d) : pC l k d = 6 /\ pL l k d = [] /\ pS l k d = ByteArray.empty := by
  have h0 : 0 <= fz l (idN k d) := by omega
  have e1 : pC l k d = 6 := by unfold pC; rw [if_pos h0, h, if_neg (by simpa using e)]
  have e2 : ¬ pC l k d = 0 := by omega
  exact ⟨e1, if_neg e2, if_neg e2⟩
theorem p_full {l : List Ob} {k : Int} {d : ByteArray} (h : fz l (idN k d) = -1) (e : 200 <= l.length) : pC l k d = 2 /\ pL l k d = [] /\ pS l k d = ByteArray.empty := by
  have h0 : ¬ 0 <= fz l (idN k d) := by omega
  have e1 : pC l k d = 2 := by unfold pC; rw [if_neg h0, if_pos e]
  have e2 : ¬ pC l k d = 0 := by omega
  exact ⟨e1, if_neg e2, if_neg e2⟩
theorem p_new {l : List Ob} {k : Int} {d : ByteArray} (h : fz l (idN k d) = -1) (e : ¬ 200 <= l.length) : pC l k d = 0 /\ pL l k d = insO l (idN k d, k, d) /\ pS l k d = idN k d := by
  have h0 : ¬ 0 <= fz l (idN k d) := by omega
  have e1 : pC l k d = 0 := by unfold pC; rw [if_neg h0, if_neg e]
  exact ⟨e1, by unfold pL; rw [if_pos e1, if_neg h0], by unfold pS; rw [if_pos e1]⟩
def PT (C : Int) (L : List Ob) (s : ByteArray) (w : World) (e : Ending) (w' : World) : Prop := ∃ v, e = .returned (.tuple #[v, .string s, .int .i64 C]) /\ (C = 0 -> v ≠ .slice none 0 0) /\ w'.ownsRow w.heap.size 50 3 v L.length (ocells L) /\ Below w.heap.size w w'
theorem nilRowO (base : Nat) (w : World) : w.ownsRow base 50 3 (.slice none 0 0) 0 (ocells []) := ⟨rfl, .inl ⟨rfl, rfl⟩⟩

set_option maxRecDepth 20000 in
set_option maxHeartbeats 2000000 in
theorem l5Put (g off c : Nat) (l : List Ob) (k : Int) (d : ByteArray) (w : World) (h : OB w.heap.size w (some ⟨g, off, none⟩) l) (hc : l.length <= c) (hn : l.length <= 1048576) (hk : inB k 1 3 = true) (hd : d.size <= 1048576) :
    Calls Tryz.prog 74 #[.slice (some ⟨g, off, none⟩) l.length c, .int .i64 k, .string d] w fun e w' => PT (pC l k d) (pL l k d) (pS l k d) w e w' := by
  have hI := fun w => l5Id k d w hk hd
  have hF := fun w h => l5Find (some ⟨g, off, none⟩) c l (idN k d) w h (by omega)
  have hSame : ∀ n : Nat, fz l (idN k d) = n -> (l.getD n onil).2.2 = d -> Hid (pC l k d = 0 /\ pL l k d = l /\ pS l k d = idN k d) := fun n h e => p_same h e
  have hOther : ∀ n : Nat, fz l (idN k d) = n -> ¬ (l.getD n onil).2.2 = d -> Hid (pC l k d = 6 /\ pL l k d = [] /\ pS l k d = ByteArray.empty) := fun n h e => p_other h e
  have hFull : fz l (idN k d) = -1 -> 200 <= l.length -> Hid (pC l k d = 2 /\ pL l k d = [] /\ pS l k d = ByteArray.empty) := fun h e => p_full h e
  have hNew : fz l (idN k d) = -1 -> ¬ 200 <= l.length -> Hid (pC l k d = 0 /\ pL l k d = insO l (idN k d, k, d) /\ pS l k d = idN k d) := fun h e => p_new h e
  have hcs := fz_cases l (idN k d)
  have hT := insAt_take l (idN k d)
  have hA := insAt_at l (idN k d)
  have hle := insAt_le l (idN k d)
  have hIns : insO l (idN k d, k, d) = l.take (insAt l (idN k d)) ++ (idN k d, k, d) :: l.drop (insAt l (idN k d)) := rfl
  obtain ⟨N, hN⟩ : ∃ N, insAt l (idN k d) = N := ⟨_, rfl⟩
  rw [hN] at hT hA hle hIns
  obtain ⟨C, hC⟩ : ∃ C, pC l k d = C := ⟨_, rfl⟩
  obtain ⟨L, hL⟩ : ∃ L, pL l k d = L := ⟨_, rfl⟩
  obtain ⟨S, hS⟩ : ∃ S, pS l k d = S := ⟨_, rfl⟩
  obtain ⟨X, hX⟩ : ∃ X, insO l (idN k d, k, d) = X := ⟨_, rfl⟩
  rw [hX] at hNew hIns
  obtain ⟨Id, hId⟩ : ∃ Id, idN k d = Id := ⟨_, rfl⟩
  rw [hC, hL, hS] at hSame hOther hFull hNew ⊢
  rw [hId] at hI hF hSame hOther hFull hNew hcs hT hA hIns
  clear hN hC hL hS hX hId
  go_enter Tryz.func74, Tryz.ntmps74
  go_wp2_with fail
  refine (hI _).mono ?_; rintro e w ⟨rfl, rfl⟩
  go_wp2_with fail
  refine (hF _ h).mono ?_; rintro e w ⟨rfl, rfl⟩
  clear hI hF
  rcases hcs with e | ⟨n, e, hn, e2⟩
  · have q0 : ¬ (0 : Int) <= fz l Id := by omega
    by_cases h200 : 200 <= l.length
    · have HC := (hFull e h200)
      have q2 : (200 : Int) <= (l.length : Int) := by omega
      clear hSame hOther hFull hNew hT hA e h200
      go_wp2
      refine bodyPost_ret (v := .tuple #[.slice none 0 0, .string ⟨#[]⟩, .int .i64 2]) (by simp [results, Tryz.results74, go_sem]) rfl ?_
      obtain ⟨rfl, rfl, rfl⟩ := HC.out
      exact ⟨_, rfl, fun h => by omega, nilRowO _ _, Below.refl _ _⟩
    · have HC := (hNew e h200)
      have q2 : ¬ (200 : Int) <= (l.length : Int) := by omega
      have HI : Hid (X = l.take N ++ (Id, k, d) :: l.drop N) := hIns
      clear hSame hOther hFull hNew e h200 hIns
      go_wp2
      go_loop [11] (fun i => ∃ m : Nat, m <= N /\ i = .int .i64 m) (fun i => N - (intOf i).toNat)
      case atStart => exact ⟨0, by omega, rfl⟩
      case round =>
        obtain ⟨m, hm, rfl⟩ := hrel
        by_cases hmN : m < N
        · have q : (m : Int) < (l.length : Int) := by omega
          obtain ⟨g', off', e1, _, d0, _, _⟩ := h m (by omega)
          simp only [Option.some.injEq, Addr.mk.injEq] at e1
          obtain ⟨rfl, rfl, _⟩ := e1
          have hb := hT m hmN
          clear hT hA
          obtain ⟨O, hO⟩ : ∃ O, l.getD m onil = O := ⟨_, rfl⟩
          rw [hO] at d0 hb
          clear hO
          go_wp2
          go_round
          case rel => exact ⟨m + 1, by omega, by go_num⟩
          case measure => simp [intOf]; omega
        · obtain rfl : m = N := by omega
          have hend : l.length <= m \/ (m < l.length /\ Op.bytesLess (l.getD m onil).1.toList Id.toList = false) := by
            by_cases hml : m < l.length
            · exact .inr ⟨hml, hA hml⟩
            · exact .inl (by omega)
          clear hT hA
          have q3 : (m : Int) <= (c : Int) := by omega
          have q4 : (m : Int) <= (l.length : Int) := by omega
          have q5 : (l.length : Int) <= (c : Int) := by omega
          have tl : (l.take m).length = m := by simp; omega
          have HCp := fun c' w h => l5Copy g off c' (l.take m) w h (by omega)
          rw [tl] at HCp
          rcases hend with hend | ⟨hml, hbl⟩
          · have q : ¬ (m : Int) < (l.length : Int) := by omega
            have hd0 : l.drop m = [] := List.drop_eq_nil_of_le hend
            by_cases hcm : c = m
            · have hnil : ∀ (W : World) (AD : Addr) j u, (ocells (l.drop m))[j]? = some u -> W.cell? (AD.add j) = some u := fun W AD j u hj => by
                rw [hd0] at hj; simp [ocells, rowG] at hj
              go_wp2_with fail
              refine (HCp _ _ (h.takeO m)).mono ?_; rintro e w1 ⟨v1, rfl, n1, o1, b1⟩
              have h1 := h.below b1
              have bA := allocBelow w1 (.cells #[.string Id, .int .i64 k, .string d] 50)
              have oA := o1.kept (grownOfBelow bA none) (blockCases _ _ (fun _ _ h => by cases h))
              have nA := newsCells w1 #[.string Id, .int .i64 k, .string d] 50
              have lt1 := o1.lt
              have s1 := b1.size
              have dl : (l.drop m).length = l.length - m := by simp
              have hlg : ∀ j, v1.ownBlock = some j -> w.heap.size <= j := fun j hj => (lt1 j hj).1
              clear HCp
              go_wp2_with (first
                | (at_builtin; refine wpList_appO rfl (.tmp 52) (.tmp 57) rfl w.heap.size v1 (l.take m) rfl oA ⟨w1.heap.size, 0, none⟩ 1 [(Id, k, d)] rfl (by rw [ocells_one]; exact nA) (by simp; omega) (by simp; omega) ?_; intro v2 w2 o2 g2 n2 k2
                   have B2 : Below w.heap.size w w2 := (b1.trans (bA.mono s1)).grown g2 (by simp; omega) (fun j hj => hlg j hj)
                   have h2 := h.below B2
                   have s2 := B2.size
                   have n2' : v2 ≠ .slice none 0 0 := fun e => n1 (n2.1 e).1
                   have hlg2 : ∀ j, v2.ownBlock = some j -> w.heap.size <= j := fun j hj => (o2.lt j hj).1)
                | (at_builtin; refine wpList_appO rfl (.tmp 59) (.tmp 62) rfl w.heap.size v2 (l.take m ++ [(Id, k, d)]) rfl o2 ⟨g, off, none⟩ _ (l.drop m) (by first | (rw [dl]; rfl) | (rw [hd0]; rfl)) (hnil _ _) (by simp; omega) s2 ?_; intro v3 w3 o3 g3 n3 k3)
                | go_in)
              have B3 : Below w.heap.size w w3 := B2.grown g3 s2 (fun j hj => hlg2 j hj)
              have n3' : v3 ≠ .slice none 0 0 := fun e => n2' (n3.1 e).1
              rw [List.append_assoc, List.singleton_append, <- HI.out] at o3
              clear h1 bA oA nA lt1 hlg o1 b1 n1 o2 g2 n2 k2 B2 h2 n2' hlg2 g3 n3 k3
              refine bodyPost_ret (v := .tuple #[v3, .string Id, .int .i64 0]) (by simp [results, Tryz.results74, go_sem]) rfl ?_
              obtain ⟨rfl, rfl, rfl⟩ := HC.out
              exact ⟨_, rfl, fun _ => n3', o3, B3⟩
            · have hnil : ∀ (W : World) (AD : Addr) j u, (ocells (l.drop m))[j]? = some u -> W.cell? (AD.add j) = some u := fun W AD j u hj => by
                rw [hd0] at hj; simp [ocells, rowG] at hj
              go_wp2_with fail
              refine (HCp _ _ (h.takeO m)).mono ?_; rintro e w1 ⟨v1, rfl, n1, o1, b1⟩
              have h1 := h.below b1
              have bA := allocBelow w1 (.cells #[.string Id, .int .i64 k, .string d] 50)
              have oA := o1.kept (grownOfBelow bA none) (blockCases _ _ (fun _ _ h => by cases h))
              have nA := newsCells w1 #[.string Id, .int .i64 k, .string d] 50
              have lt1 := o1.lt
              have s1 := b1.size
              have dl : (l.drop m).length = l.length - m := by simp
              have hlg : ∀ j, v1.ownBlock = some j -> w.heap.size <= j := fun j hj => (lt1 j hj).1
              clear HCp
              go_wp2_with (first
                | (at_builtin; refine wpList_appO rfl (.tmp 52) (.tmp 57) rfl w.heap.size v1 (l.take m) rfl oA ⟨w1.heap.size, 0, none⟩ 1 [(Id, k, d)] rfl (by rw [ocells_one]; exact nA) (by simp; omega) (by simp; omega) ?_; intro v2 w2 o2 g2 n2 k2
                   have B2 : Below w.heap.size w w2 := (b1.trans (bA.mono s1)).grown g2 (by simp; omega) (fun j hj => hlg j hj)
                   have h2 := h.below B2
                   have s2 := B2.size
                   have n2' : v2 ≠ .slice none 0 0 := fun e => n1 (n2.1 e).1
                   have hlg2 : ∀ j, v2.ownBlock = some j -> w.heap.size <= j := fun j hj => (o2.lt j hj).1)
                | (at_builtin; refine wpList_appO rfl (.tmp 59) (.tmp 62) rfl w.heap.size v2 (l.take m ++ [(Id, k, d)]) rfl o2 ⟨g, off + m * 3, none⟩ _ (l.drop m) (by first | (rw [dl]; rfl) | (rw [hd0]; rfl)) (hnil _ _) (by simp; omega) s2 ?_; intro v3 w3 o3 g3 n3 k3)
                | go_in)
              have B3 : Below w.heap.size w w3 := B2.grown g3 s2 (fun j hj => hlg2 j hj)
              have n3' : v3 ≠ .slice none 0 0 := fun e => n2' (n3.1 e).1
              rw [List.append_assoc, List.singleton_append, <- HI.out] at o3
              clear h1 bA oA nA lt1 hlg o1 b1 n1 o2 g2 n2 k2 B2 h2 n2' hlg2 g3 n3 k3
              refine bodyPost_ret (v := .tuple #[v3, .string Id, .int .i64 0]) (by simp [results, Tryz.results74, go_sem]) rfl ?_
              obtain ⟨rfl, rfl, rfl⟩ := HC.out
              exact ⟨_, rfl, fun _ => n3', o3, B3⟩
          · have q : (m : Int) < (l.length : Int) := by omega
            have hcm : ¬ c = m := by omega
            obtain ⟨g', off', e1, _, d0, _, _⟩ := h m hml
            simp only [Option.some.injEq, Addr.mk.injEq] at e1
            obtain ⟨rfl, rfl, _⟩ := e1
            obtain ⟨O, hO⟩ : ∃ O, l.getD m onil = O := ⟨_, rfl⟩
            rw [hO] at d0 hbl
            clear hO
            go_wp2_with fail
            refine (HCp _ _ (h.takeO m)).mono ?_; rintro e w1 ⟨v1, rfl, n1, o1, b1⟩
            have h1 := h.below b1
            have bA := allocBelow w1 (.cells #[.string Id, .int .i64 k, .string d] 50)
            have oA := o1.kept (grownOfBelow bA none) (blockCases _ _ (fun _ _ h => by cases h))
            have nA := newsCells w1 #[.string Id, .int .i64 k, .string d] 50
            have lt1 := o1.lt
            have s1 := b1.size
            have dl : (l.drop m).length = l.length - m := by simp
            have hlg : ∀ j, v1.ownBlock = some j -> w.heap.size <= j := fun j hj => (lt1 j hj).1
            clear HCp
            go_wp2_with (first
              | (at_builtin; refine wpList_appO rfl (.tmp 52) (.tmp 57) rfl w.heap.size v1 (l.take m) rfl oA ⟨w1.heap.size, 0, none⟩ 1 [(Id, k, d)] rfl (by rw [ocells_one]; exact nA) (by simp; omega) (by simp; omega) ?_; intro v2 w2 o2 g2 n2 k2
                 have B2 : Below w.heap.size w w2 := (b1.trans (bA.mono s1)).grown g2 (by simp; omega) (fun j hj => hlg j hj)
                 have h2 := h.below B2
                 have s2 := B2.size
                 have n2' : v2 ≠ .slice none 0 0 := fun e => n1 (n2.1 e).1
                 have hlg2 : ∀ j, v2.ownBlock = some j -> w.heap.size <= j := fun j hj => (o2.lt j hj).1)
              | (at_builtin; refine wpList_appO rfl (.tmp 59) (.tmp 62) rfl w.heap.size v2 (l.take m ++ [(Id, k, d)]) rfl o2 ⟨g, off + m * 3, none⟩ _ (l.drop m) (by rw [dl]; rfl) (newsO (h2.dropO m)) (by simp; omega) s2 ?_; intro v3 w3 o3 g3 n3 k3)
              | go_in)
            have B3 : Below w.heap.size w w3 := B2.grown g3 s2 (fun j hj => hlg2 j hj)
            have n3' : v3 ≠ .slice none 0 0 := fun e => n2' (n3.1 e).1
            rw [List.append_assoc, List.singleton_append, <- HI.out] at o3
            clear h1 bA oA nA lt1 hlg o1 b1 n1 o2 g2 n2 k2 B2 h2 n2' hlg2 g3 n3 k3
            refine bodyPost_ret (v := .tuple #[v3, .string Id, .int .i64 0]) (by simp [results, Tryz.results74, go_sem]) rfl ?_
            obtain ⟨rfl, rfl, rfl⟩ := HC.out
            exact ⟨_, rfl, fun _ => n3', o3, B3⟩
  · have q0 : (0 : Int) <= fz l Id := by omega
    have q0' : (0 : Int) <= (n : Int) := by omega
    have q1 : (n : Int) < (l.length : Int) := by omega
    replace hSame := hSame n e
    replace hOther := hOther n e
    rw [e]
    obtain ⟨g', off', e1, _, d0, _, d2⟩ := h n hn
    simp only [Option.some.injEq, Addr.mk.injEq] at e1
    obtain ⟨rfl, rfl, _⟩ := e1
    have HCp := fun w h => l5Copy g off c l w h (by omega)
    obtain ⟨O, hO⟩ : ∃ O, l.getD n onil = O := ⟨_, rfl⟩
    rw [hO] at d0 d2 hSame hOther
    obtain ⟨x0, x1, x2⟩ := O
    simp only [] at d2 hSame hOther
    clear hO hFull hNew hT hA hIns d0 e2
    by_cases ed : x2 = d
    · have HC := hSame ed
      have qd : (x2.toList == d.toList) = true := beq_bytes_true ed
      clear hSame hOther ed e
      go_wp2_with fail
      refine (HCp _ h).mono ?_; rintro e w1 ⟨v1, rfl, n1, o1, b1⟩
      clear HCp d2 qd
      go_wp2
      refine bodyPost_ret (v := .tuple #[v1, .string Id, .int .i64 0]) (by simp [results, Tryz.results74, go_sem]) rfl ?_
      obtain ⟨rfl, rfl, rfl⟩ := HC.out
      exact ⟨_, rfl, fun _ => n1, o1, b1⟩
    · have HC := hOther ed
      have qd : (x2.toList == d.toList) = false := beq_bytes_false ed
      clear hSame hOther ed e HCp
      go_wp2
      refine bodyPost_ret (v := .tuple #[.slice none 0 0, .string ⟨#[]⟩, .int .i64 6]) (by simp [results, Tryz.results74, go_sem]) rfl ?_
      obtain ⟨rfl, rfl, rfl⟩ := HC.out
      exact ⟨_, rfl, fun h => by omega, nilRowO _ _, Below.refl _ _⟩
end Go.Proofs.YtcfnkndbhpdfnaaGreatDoor
namespace Go.Proofs.YtcfnkndbhpdfnaaGreatDoor
open Go.ChangeShapes Go.WideShapes Go.ChangeAt Go.RowKit

set_option maxRecDepth 20000 in
set_option maxHeartbeats 2000000 in
theorem putOld (p b : Nat) (l : List Ob) (x0 x2 v0 v2 : ByteArray) (x1 v1 c : Int) (ok : Bool) (w : World) (hR : Rf w p [.map (some b), .int .i64 (l.length : Int)]) (hbp : b < p) (hp : p < w.heap.size) (hS : Sh w b l) (h5 : x0.size = 5)
    (hlk : ∀ w, Sh w b l -> (Instr.lookup 89 (.map (some b)) (kv x0) true).run Tryz.prog w = .ok (.tuple #[.agg #[.string v0, .int .i64 v1, .string v2], .bool ok]) w)
    (hyes : ok = true -> c = if v2 = x2 then 0 else 6) (hno : ok = false -> c = 2 /\ 200 <= l.length) :
    Calls Tryz.prog 52 #[.pointer (some ⟨p, 0, none⟩), .agg #[.string x0, .int .i64 x1, .string x2]] w fun e w' => e = .returned (.int .i64 c) /\ Rf w' p [.map (some b), .int .i64 (l.length : Int)] /\ Sh w' b l /\ Below b w w' /\ w.heap.size <= w'.heap.size /\ PK b p w w' := by
  obtain ⟨n0, n1, n2, n3, n4, hkv⟩ := kv_ints x0
  have hKO := fun w => keyOfC x0 w h5
  rw [hkv] at hKO hlk
  have hmf : ∀ (fn : Fn) (first cap : Array Value) (w : World), (Instr.makeFunc fn first cap).run Tryz.prog w = .ok (.func fn first cap) w := fun _ _ _ _ => rfl
  obtain ⟨WA, hWA⟩ : ∃ W, w.alloc (.cells #[.pointer (some ⟨p, 0, none⟩)] 57) = W := ⟨_, rfl⟩
  have bA : Below w.heap.size w WA := by rw [<- hWA]; exact allocBelow _ _
  have zA : WA.heap.size = w.heap.size + 1 := by rw [<- hWA]; simp
  have rqA : Rf WA w.heap.size [.pointer (some ⟨p, 0, none⟩)] := by rw [<- hWA]; exact Rf.new _ _ _
  obtain ⟨W0, hW0⟩ : ∃ W, WA.alloc (.cells #[.string x0, .int .i64 x1, .string x2] 50) = W := ⟨_, rfl⟩
  have b0 : Below WA.heap.size WA W0 := by rw [<- hW0]; exact allocBelow _ _
  have z0 : W0.heap.size = w.heap.size + 1 + 1 := by rw [<- hW0]; simp [zA]
  have ro0 : Rf W0 (w.heap.size + 1) [.string x0, .int .i64 x1, .string x2] := by rw [<- hW0, <- zA]; exact Rf.new _ _ _
  have rq0 := rqA.below (by omega) b0
  have B0 : Below w.heap.size w W0 := bA.trans (b0.mono (by omega))
  have rp0 := hR.below hp B0
  have S0 := hS.below B0
  have hb := hS.lt
  have c0 := ro0.at_ 0 _ rfl
  clear rqA b0 bA hR hS
  go_enter_defers Tryz.func52, Tryz.ntmps52
  go_wp2_with fail
  refine (hKO _).mono ?_; rintro e w1 ⟨rfl, b1⟩
  have z1 := b1.size
  have rq1 := rq0.below (by omega) b1
  have ro1 := ro0.below (by omega) b1
  have rp1 := rp0.below (by omega) b1
  have S1 := S0.below b1
  have B1 : Below w.heap.size w w1 := B0.trans (b1.mono (by omega))
  clear rq0 ro0 rp0 S0 b1 B0 c0 hW0 hWA
  obtain ⟨W1, hW1⟩ : ∃ W, w1.alloc (.cells #[.int .u8 0, .int .u8 0, .int .u8 0, .int .u8 0, .int .u8 0] 119) = W := ⟨_, rfl⟩
  have b2 : Below w1.heap.size w1 W1 := by rw [<- hW1]; exact allocBelow _ _
  have zz : W1.heap.size = w1.heap.size + 1 := by rw [<- hW1]; simp
  have rk1 : Rf W1 w1.heap.size [.int .u8 0, .int .u8 0, .int .u8 0, .int .u8 0, .int .u8 0] := by rw [<- hW1]; exact Rf.new _ _ _
  have rq2 := (rq1.below (by omega) b2).five (k := w1.heap.size) (by omega) (.int .u8 n0) (.int .u8 n1) (.int .u8 n2) (.int .u8 n3) (.int .u8 n4)
  have ro2 := (ro1.below (by omega) b2).five (k := w1.heap.size) (by omega) (.int .u8 n0) (.int .u8 n1) (.int .u8 n2) (.int .u8 n3) (.int .u8 n4)
  have rp2 := (rp1.below (by omega) b2).five (k := w1.heap.size) (by omega) (.int .u8 n0) (.int .u8 n1) (.int .u8 n2) (.int .u8 n3) (.int .u8 n4)
  have S2 := (S1.below b2).five (k := w1.heap.size) (by omega) (.int .u8 n0) (.int .u8 n1) (.int .u8 n2) (.int .u8 n3) (.int .u8 n4)
  have rk2 := rk1.fiveAt (.int .u8 n0) (.int .u8 n1) (.int .u8 n2) (.int .u8 n3) (.int .u8 n4)
  have B2 := below5 (B1.trans (b2.mono (by omega))) (show w.heap.size <= w1.heap.size by omega) (.int .u8 n0) (.int .u8 n1) (.int .u8 n2) (.int .u8 n3) (.int .u8 n4)
  have k0 := rk1.at_ 0 _ rfl
  have k1 := rk1.at_ 1 _ rfl
  have k2 := rk1.at_ 2 _ rfl
  have k3 := rk1.at_ 3 _ rfl
  have k4 := rk1.at_ 4 _ rfl
  have g0 := rk1.fz 0
  have g1 := rk1.fz 1
  have g2 := rk1.fz 2
  have g3 := rk1.fz 3
  have g4 := rk1.fz 4
  have zs : (set5 W1 w1.heap.size (.int .u8 n0) (.int .u8 n1) (.int .u8 n2) (.int .u8 n3) (.int .u8 n4)).heap.size = w1.heap.size + 1 := by unfold set5; simp [zz]
  obtain ⟨W2, hW2⟩ : ∃ W, set5 W1 w1.heap.size (.int .u8 n0) (.int .u8 n1) (.int .u8 n2) (.int .u8 n3) (.int .u8 n4) = W := ⟨_, rfl⟩
  rw [hW2] at rq2 ro2 rp2 S2 rk2 B2 zs
  unfold set5 at hW2
  clear rq1 ro1 rp1 S1 b2 B1 rk1
  have bX : Below W2.heap.size W2 (W2.alloc (.cells #[.string ⟨#[]⟩, .int .i64 0, .string ⟨#[]⟩] 50)) := allocBelow _ _
  have hlk1 := hlk _ S2.drew
  have hlk2 := hlk _ (S2.below bX).drew
  have rqX := rq2.below (by omega) bX
  have rpX := rp2.below (by omega) bX
  have rkX := rk2.below (by omega) bX
  have rxX : Rf (W2.alloc (.cells #[.string ⟨#[]⟩, .int .i64 0, .string ⟨#[]⟩] 50)) W2.heap.size [.string ⟨#[]⟩, .int .i64 0, .string ⟨#[]⟩] := Rf.new _ _ _
  have cq := rq2.at_ 0 _ rfl
  have cp0 := rp2.at_ 0 _ rfl
  have m0 := rk2.at_ 0 _ rfl
  have m1 := rk2.at_ 1 _ rfl
  have m2 := rk2.at_ 2 _ rfl
  have m3 := rk2.at_ 3 _ rfl
  have m4 := rk2.at_ 4 _ rfl
  have cqX := rqX.at_ 0 _ rfl
  have cp0X := rpX.at_ 0 _ rfl
  have m0X := rkX.at_ 0 _ rfl
  have m1X := rkX.at_ 1 _ rfl
  have m2X := rkX.at_ 2 _ rfl
  have m3X := rkX.at_ 3 _ rfl
  have m4X := rkX.at_ 4 _ rfl
  have x0X := rxX.at_ 0 _ rfl
  have x1X := rxX.at_ 1 _ rfl
  have x2X := rxX.at_ 2 _ rfl
  have f0X := rxX.fz 0
  have f1X := rxX.fz 1
  have f2X := rxX.fz 2
  have HbX : Hid (Below W2.heap.size W2 (W2.alloc (.cells #[.string ⟨#[]⟩, .int .i64 0, .string ⟨#[]⟩] 50))) := bX
  have HxX : Hid (Rf (W2.alloc (.cells #[.string ⟨#[]⟩, .int .i64 0, .string ⟨#[]⟩] 50)) W2.heap.size [.string ⟨#[]⟩, .int .i64 0, .string ⟨#[]⟩]) := rxX
  clear rqX rpX rkX rxX bX
  have HS2 : Hid (Sh W2 b l) := S2
  have HB2 : Hid (Below w.heap.size w W2) := B2
  have Hrp2 : Hid (Rf W2 p _) := rp2
  have Hrq2 : Hid (Rf W2 w.heap.size _) := rq2
  have Hro2 : Hid (Rf W2 (w.heap.size + 1) _) := ro2
  clear S2 B2 rp2 rq2 ro2 rk2 hKO hlk
  go_wp2
  go_region
  all_goals
    first
      | (obtain ⟨W3, hW3⟩ : ∃ W, (W2.alloc (.cells #[.string v0, .int .i64 v1, .string v2] 50)).drew = W := ⟨_, rfl⟩
         rw [hW3]
         have bX : Below W2.heap.size W2 W3 := by rw [<- hW3]; exact below_drew (allocBelow _ _)
         have rh3 : Rf W3 W2.heap.size [.string v0, .int .i64 v1, .string v2] := by rw [<- hW3]; exact (Rf.new _ _ _).drewM)
      | (obtain ⟨W3, hW3⟩ : ∃ W, set3 ((W2.alloc (.cells #[.string ⟨#[]⟩, .int .i64 0, .string ⟨#[]⟩] 50)).drew) W2.heap.size (.string v0) (.int .i64 v1) (.string v2) = W := ⟨_, rfl⟩
         have hW3' := hW3
         unfold set3 at hW3'
         rw [hW3']
         clear hW3'
         have bX : Below W2.heap.size W2 W3 := by rw [<- hW3]; exact below3 (below_drew HbX.out) (Nat.le_refl _) _ _ _
         have rh3 : Rf W3 W2.heap.size [.string v0, .int .i64 v1, .string v2] := by rw [<- hW3]; exact ((HxX.out.drewM.set (o := 0) (by simp) (.string v0)).set (o := 1) (by simp) (.int .i64 v1)).set (o := 2) (by simp) (.string v2))
  all_goals
    have z3 := bX.size
    have S3 := HS2.out.below bX
    have rq3 := Hrq2.out.below (by omega) bX
    have rp3 := Hrp2.out.below (by omega) bX
    have ro3 := Hro2.out.below (by omega) bX
    have B3 : Below b w W3 := (HB2.out.mono (by omega)).trans (bX.mono (by omega))
    have z4 : w.heap.size <= W3.heap.size := by omega
    have cq := rq3.at_ 0 _ rfl
    have cp0 := rp3.at_ 0 _ rfl
    have cp1 := rp3.at_ 1 _ rfl
    have o2 := ro3.at_ 2 _ rfl
    have k2 := rh3.at_ 2 _ rfl
    rw [zs] at k2
    have HE : ∀ W4 : World, W4 = W3 \/ W4 = W3.drew -> Hid (W4.cell? ⟨w.heap.size, 0, none⟩ = some (.pointer (some ⟨p, 0, none⟩)) /\ Rf W4 p [.map (some b), .int .i64 (l.length : Int)] /\ Sh W4 b l /\ Rf (W4.drew.setCell ⟨p, 1, none⟩ (.int .i64 (l.length : Int))) p [.map (some b), .int .i64 (l.length : Int)] /\ Sh (W4.drew.setCell ⟨p, 1, none⟩ (.int .i64 (l.length : Int))) b l /\ Below b w (W4.drew.setCell ⟨p, 1, none⟩ (.int .i64 (l.length : Int))) /\ w.heap.size <= (W4.drew.setCell ⟨p, 1, none⟩ (.int .i64 (l.length : Int))).heap.size /\ PK b p w (W4.drew.setCell ⟨p, 1, none⟩ (.int .i64 (l.length : Int)))) := by
      have PK3 : PK b p w W3 := fun j hj _ _ => (bX.block j (by omega)).trans (HB2.out.block j hj)
      intro W4 h4
      rcases h4 with rfl | rfl
      · exact ⟨cq, rp3, S3, rp3.drewM.set (o := 1) (by simp) (.int .i64 (l.length : Int)), S3.drew.setCell (a := ⟨p, 1, none⟩) (by show b ≠ p; omega) _, B3.drew.setCell (p := ⟨p, 1, none⟩) (by show b <= p; omega) _, by simpa using z4, pk_set PK3⟩
      · exact ⟨cq, rp3.drewM, S3.drew, rp3.drewM.drewM.set (o := 1) (by simp) (.int .i64 (l.length : Int)), S3.drew.drew.setCell (a := ⟨p, 1, none⟩) (by show b ≠ p; omega) _, B3.drew.drew.setCell (p := ⟨p, 1, none⟩) (by show b <= p; omega) _, by simpa using z4, pk_set (w' := W3.drew) PK3⟩
    clear S3 rq3 rp3 ro3 rh3 B3 bX HS2 HB2 Hrp2 Hrq2 Hro2 HbX HxX hW3 hW2 hW1 hlk1 hlk2 cqX cp0X m0X m1X m2X m3X m4X x0X x1X x2X f0X f1X f2X m0 m1 m2 m3 m4 z4
  all_goals
    cases ok with
    | true =>
      have hc := hyes rfl
      by_cases e2 : v2 = x2
      · rw [if_pos e2] at hc
        subst hc
        have q2 : (v2.toList == x2.toList) = true := beq_bytes_true e2
        clear hyes hno e2
        go_wp2
        refine leaves_cons (f := 85) (args := #[.pointer (some ⟨w.heap.size, 0, none⟩)]) (by simp) (by simp [go_sem]) ?_
        have H := (HE W3 (.inl rfl)).out
        refine (putDone w.heap.size p b l _ .returning W3 H.1 H.2.1 H.2.2.1).mono ?_
        rintro e u' w'' ⟨rfl, rfl, rfl⟩
        exact ⟨_, results_tmp rfl _ _ _, rfl, H.2.2.2.1, H.2.2.2.2.1, H.2.2.2.2.2.1, H.2.2.2.2.2.2.1, H.2.2.2.2.2.2.2⟩
      · rw [if_neg e2] at hc
        subst hc
        have q2 : (v2.toList == x2.toList) = false := beq_bytes_false e2
        clear hyes hno e2
        go_wp2
        refine leaves_cons (f := 85) (args := #[.pointer (some ⟨w.heap.size, 0, none⟩)]) (by simp) (by simp [go_sem]) ?_
        have H := (HE W3 (.inl rfl)).out
        refine (putDone w.heap.size p b l _ .returning W3 H.1 H.2.1 H.2.2.1).mono ?_
        rintro e u' w'' ⟨rfl, rfl, rfl⟩
        exact ⟨_, results_tmp rfl _ _ _, rfl, H.2.2.2.1, H.2.2.2.2.1, H.2.2.2.2.2.1, H.2.2.2.2.2.2.1, H.2.2.2.2.2.2.2⟩
    | false =>
      obtain ⟨hc, h200⟩ := hno rfl
      subst hc
      have q200 : (200 : Int) <= (l.length : Int) := by omega
      clear hyes hno h200
      go_wp2
      refine leaves_cons (f := 85) (args := #[.pointer (some ⟨w.heap.size, 0, none⟩)]) (by simp) (by simp [go_sem]) ?_
      have H := (HE W3 (.inl rfl)).out
      refine (putDone w.heap.size p b l _ .returning W3 H.1 H.2.1 H.2.2.1).mono ?_
      rintro e u' w'' ⟨rfl, rfl, rfl⟩
      exact ⟨_, results_tmp rfl _ _ _, rfl, H.2.2.2.1, H.2.2.2.2.1, H.2.2.2.2.2.1, H.2.2.2.2.2.2.1, H.2.2.2.2.2.2.2⟩
end Go.Proofs.YtcfnkndbhpdfnaaGreatDoor
