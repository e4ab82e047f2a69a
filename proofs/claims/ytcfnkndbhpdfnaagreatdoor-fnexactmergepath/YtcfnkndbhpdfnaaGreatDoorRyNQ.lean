/- Rules replayed: what an answer is, and how long it may be; blocks that stand. No statement is proved here. -/
import Derived.Test.YtcfnkndbhpdfnaaGreatDoorSwMQ
import Derived.Test.YtcfnkndbhpdfnaaGreatDoorTmMQ
set_option linter.unusedVariables false
namespace Go.Proofs.YtcfnkndbhpdfnaaGreatDoor
open Go.ChangeShapes Go.WideShapes Go.ChangeAt Go.RowKit
theorem Sh.ofBlock {w w' : World} {b : Nat} {l : List Ob} (h : Sh w b l) (e : w'.heap[b]? = w.heap[b]?) : Sh w' b l := by
 obtain ⟨D, ⟨es, clock, hb, rest⟩, h2⟩ := h
 exact ⟨D, ⟨es, clock, by rw [e]; exact hb, rest⟩, h2⟩
theorem Fr.rf {lo hi b : Nat} {w w' : World} {vs : List Value} (h : Fr lo hi w w') (hr : Rf w b vs) (hlt : b < w.heap.size) (hb : b < lo \/ hi <= b) : Rf w' b vs := hr.ofBlock (h.block b hlt hb)
end Go.Proofs.YtcfnkndbhpdfnaaGreatDoor
namespace Go.Proofs.YtcfnkndbhpdfnaaGreatDoor.Ry
open Go.ChangeShapes Go.WideShapes Go.ChangeAt Go.RowKit
end Go.Proofs.YtcfnkndbhpdfnaaGreatDoor.Ry
set_option linter.unusedVariables false
namespace Go.Proofs.YtcfnkndbhpdfnaaGreatDoor.Tm
open Go.ChangeShapes Go.WideShapes Go.ChangeAt Go.RowKit
open Go.Proofs.YtcfnkndbhpdfnaaGreatDoor.Pv
structure TS (P Q Pm : Nat) (M : List Ob) (E : List En.Ob) (K : List Wk.Ob) (vE vW : Value) (w : World) : Prop where
 rp : Rf w (P + 1) [.map (some P), .int .i64 (M.length : Int)]
 sh : Sh w P M
 sl : En.SL w Q E vE
 rm : Rf w Pm [.pointer (some ⟨P + 1, 0, none⟩), .pointer (some ⟨Q, 0, none⟩), vW]
 ow : w.ownsRow (P + 2) 83 2 vW K.length (Wk.ocells K)
 pq : P + 1 < Q
 qm : Q < Pm
 lt : Pm < w.heap.size
 eM : vE.ownBlock ≠ some Pm
 wQ : vW.ownBlock ≠ some Q
 wM : vW.ownBlock ≠ some Pm
 we : ∀ j, vW.ownBlock = some j -> vE.ownBlock ≠ some j
structure TF (P Q Pm : Nat) (vE vW vE' vW' : Value) (w w' : World) : Prop where
 os : w'.os = w.os
 tape : w'.tape = w.tape
 output : w'.output = w.output
 size : w.heap.size <= w'.heap.size
 block : ∀ k, k < w.heap.size -> k ≠ P -> k ≠ P + 1 -> k ≠ Q -> k ≠ Pm -> vE.ownBlock ≠ some k -> vW.ownBlock ≠ some k -> w'.heap[k]? = w.heap[k]?
 fE : vE'.ownBlock = vE.ownBlock \/ ∃ j, vE'.ownBlock = some j /\ w.heap.size <= j
 fW : vW'.ownBlock = vW.ownBlock \/ ∃ j, vW'.ownBlock = some j /\ w.heap.size <= j
theorem TF.ofBelow {P Q Pm : Nat} {vE vW : Value} {w w' : World} (h : Below w.heap.size w w') : TF P Q Pm vE vW vE vW w w' :=
 ⟨h.os, h.tape, h.output, h.size, fun k hk _ _ _ _ _ _ => h.block k hk, .inl rfl, .inl rfl⟩
theorem fresh_trans {v v1 v2 : Value} {n m : Nat} (h1 : v1.ownBlock = v.ownBlock \/ ∃ j, v1.ownBlock = some j /\ n <= j) (h2 : v2.ownBlock = v1.ownBlock \/ ∃ j, v2.ownBlock = some j /\ m <= j) (hnm : n <= m) : v2.ownBlock = v.ownBlock \/ ∃ j, v2.ownBlock = some j /\ n <= j := by
 rcases h2 with h2 | ⟨j, h2, h3⟩
 ·rw [h2]; exact h1
 ·exact .inr ⟨j, h2, by omega⟩
theorem fresh_ne {v v1 : Value} {n k : Nat} (h1 : v1.ownBlock = v.ownBlock \/ ∃ j, v1.ownBlock = some j /\ n <= j) (hv : v.ownBlock ≠ some k) (hk : k < n) : v1.ownBlock ≠ some k := by
 rcases h1 with h1 | ⟨j, h1, h2⟩
 ·rw [h1]; exact hv
 ·rw [h1]; intro e; cases e; omega
theorem TF.trans {P Q Pm : Nat} {v0 u0 v1 u1 v2 u2 : Value} {a b c : World} (h : TF P Q Pm v0 u0 v1 u1 a b) (k : TF P Q Pm v1 u1 v2 u2 b c) : TF P Q Pm v0 u0 v2 u2 a c :=
 ⟨k.os.trans h.os, k.tape.trans h.tape, k.output.trans h.output, Nat.le_trans h.size k.size,
  fun j hj e1 e2 e3 e4 e5 e6 => (k.block j (Nat.lt_of_lt_of_le hj h.size) e1 e2 e3 e4 (fresh_ne h.fE e5 hj) (fresh_ne h.fW e6 hj)).trans (h.block j hj e1 e2 e3 e4 e5 e6),
  fresh_trans h.fE k.fE h.size, fresh_trans h.fW k.fW h.size⟩
theorem TS.below {P Q Pm : Nat} {M : List Ob} {E : List En.Ob} {K : List Wk.Ob} {vE vW : Value} {w w' : World} (h : TS P Q Pm M E K vE vW w) (hb : Below w.heap.size w w') : TS P Q Pm M E K vE vW w' :=
 have := h.pq
 have := h.qm
 have := h.lt
 ⟨h.rp.below (by omega) hb, h.sh.below hb, h.sl.below hb, h.rm.below h.lt hb, (Fr.ofBelow (lo := 0) (hi := 0) hb).own h.ow (fun _ _ => .inr (Nat.zero_le _)), h.pq, h.qm, Nat.lt_of_lt_of_le h.lt hb.size, h.eM, h.wQ, h.wM, h.we⟩
theorem ownKeep {w w' : World} {base : Nat} {e : TypeId} {s : Nat} {v : Value} {n : Nat} {xs : List Value} (ho : w.ownsRow base e s v n xs) (hz : w.heap.size <= w'.heap.size) (hb : ∀ k, v.ownBlock = some k -> w'.heap[k]? = w.heap[k]?) : w'.ownsRow base e s v n xs := by
 refine ⟨ho.1, ?_⟩
 rcases ho.2 with h | ⟨g, c, cur, h1, h2, h3, h4, h5⟩
 ·exact .inl h
 ·have e1 := hb g (by rw [h1]; rfl)
  exact .inr ⟨g, c, cur, h1, h2, by rw [e1]; exact h3, h4, h5⟩
end Go.Proofs.YtcfnkndbhpdfnaaGreatDoor.Tm
set_option linter.unusedVariables false
namespace Go.Proofs.YtcfnkndbhpdfnaaGreatDoor.Tm
open Go.ChangeShapes Go.WideShapes Go.ChangeAt Go.RowKit
open Go.Proofs.YtcfnkndbhpdfnaaGreatDoor.Pv
theorem cellK {w w' : World} {b o : Nat} {v : Value} (h : w.cell? ⟨b, o, none⟩ = some v) (e : w'.heap[b]? = w.heap[b]?) : w'.cell? ⟨b, o, none⟩ = some v := by
 unfold World.cell? at h ⊢
 rw [e]; exact h
theorem TS.added {P Q Pm : Nat} {M : List Ob} {E E' : List En.Ob} {K : List Wk.Ob} {vE vW v' : Value} {w w' : World} (h : TS P Q Pm M E K vE vW w) (hs : En.SL w' Q E' v') (hb : Below Q w w') (hz : w.heap.size <= w'.heap.size) (hk : ∀ k, k < w.heap.size -> k ≠ Q -> vE.ownBlock ≠ some k -> w'.heap[k]? = w.heap[k]?) (hf : v'.ownBlock = vE.ownBlock \/ ∃ j, v'.ownBlock = some j /\ w.heap.size <= j) :
  TS P Q Pm M E' K v' vW w' /\ TF P Q Pm vE vW v' vW w w' := by
 have e1 := h.pq
 have e2 := h.qm
 have e3 := h.lt
 have ePm : w'.heap[Pm]? = w.heap[Pm]? := hk Pm h.lt (by omega) h.eM
 have hW : ∀ k, vW.ownBlock = some k -> w'.heap[k]? = w.heap[k]? := fun k hk2 => hk k (h.ow.lt k hk2).2 (fun e => h.wQ (e ▸ hk2)) (h.we k hk2)
 refine ⟨⟨h.rp.belowAt (by omega) hb, h.sh.ofBlock (hb.block P (by omega)), hs, h.rm.ofBlock ePm, ownKeep h.ow hz hW, h.pq, h.qm, by omega, fresh_ne hf h.eM h.lt, h.wQ, h.wM, fun j hj => fresh_ne hf (h.we j hj) (h.ow.lt j hj).2⟩, ⟨hb.os, hb.tape, hb.output, hz, fun k h1 _ _ h4 _ h6 _ => hk k h1 h4 h6, hf, .inl rfl⟩⟩
def SP1 (P Q Pm : Nat) (M : List Ob) (E : List En.Ob) (K : List Wk.Ob) (vE vW : Value) (w : World) (e : Ending) (w' : World) : Prop := e = .returned (.tuple #[]) /\ ∃ v', TS P Q Pm M E K v' vW w' /\ TF P Q Pm vE vW v' vW w w'
set_option maxRecDepth 20000 in
set_option maxHeartbeats 4000000 in
theorem settleC (P Q Pm : Nat) (M : List Ob) (E : List En.Ob) (K : List Wk.Ob) (vE vW : Value) (x0 x2 : ByteArray) (x1 : Int) (w : World) (h : TS P Q Pm M E K vE vW w) (h0 : x0.size <= 1048576) (h2 : x2.size <= 1048576) (hn : E.length <= 1048575) (hL : ¬ ((x0, x1, x2) : Fl.Ob) = Fl.onil -> En.Last E (entF (x0, x1, x2) 0)) :
  Calls Tryz.prog 88 #[.pointer (some ⟨Pm, 0, none⟩), .agg #[.string x0, .int .i64 x1, .string x2]] w fun e w' => SP1 P Q Pm M (if ((x0, x1, x2) : Fl.Ob) = Fl.onil then E else E ++ [entF (x0, x1, x2) 0]) K vE vW w e w' := by
 obtain ⟨EE, hEE⟩ : ∃ EE, (if ((x0, x1, x2) : Fl.Ob) = Fl.onil then E else E ++ [entF (x0, x1, x2) 0]) = EE := ⟨_, rfl⟩
 rw [hEE]
 obtain ⟨W1, hW1⟩ : ∃ W, w.alloc (.cells #[.string x0, .int .i64 x1, .string x2] 34) = W := ⟨_, rfl⟩
 have b1 : Below w.heap.size w W1 := by rw [<- hW1]; exact allocBelow _ _
 have r1 : Rs W1 w.heap.size [.string x0, .int .i64 x1, .string x2] := by rw [<- hW1]; exact Rs.new w #[.string x0, .int .i64 x1, .string x2] _
 have zW : w.heap.size < W1.heap.size := by rw [<- hW1]; simp
 have T1 := h.below b1
 have c0 := r1 0 _ rfl
 have c1 := r1 1 _ rfl
 have c2 := r1 2 _ rfl
 by_cases hx : ((x0, x1, x2) : Fl.Ob) = Fl.onil
 ·have hE := Fl.ef_nil hx
  have HE : Hid (EE = E) := hEE.symm.trans (if_pos hx)
  clear hEE hx hL r1
  go_enter Tryz.func88, Tryz.ntmps88
  go_wp2
  refine bodyPost_end (results_none rfl _ _ _) rfl ?_
  rw [HE.out]
  exact ⟨rfl, vE, T1, TF.ofBelow b1⟩
 ·have hE := Fl.ef_some hx
  have HE : Hid (EE = E ++ [entF (x0, x1, x2) 0]) := hEE.symm.trans (if_neg hx)
  clear hEE
  have hEn := fun W => En.entryAtC (x0, x1, x2) 0 W h0 h2
  have hAd := fun W y => En.addEndK Q E vE (entF (x0, x1, x2) 0) W y hn (hL hx)
  unfold entF at hAd
  simp only [] at hEn hAd
  have T1D : TS P Q Pm M E K vE vW W1.drew := T1.below (below_drew (Below.refl _ _))
  have m1 := T1D.rm.at_ 1 _ rfl
  have HT1 : Hid (Below w.heap.size w W1) := b1
  have hQ1 := h.sl.lt
  have hQP := h.qm
  have hlt := h.lt
  have HOB : Hid (∀ j, vE.ownBlock = some j -> j < w.heap.size) := fun j hj => (h.sl.own.lt j hj).2
  have HPm : Hid (vE.ownBlock ≠ some Pm) := h.eM
  clear hx hL r1 b1 T1 h
  go_enter Tryz.func88, Tryz.ntmps88
  go_wp2
  clear hW1
  go_region_held (fun w' => w'.cell? ⟨Pm, 1, none⟩ = some (.pointer (some ⟨Q, 0, none⟩)) /\ w'.cell? ⟨w.heap.size, 0, none⟩ = some (.string x0) /\ w'.cell? ⟨w.heap.size, 1, none⟩ = some (.int .i64 x1) /\ w'.cell? ⟨w.heap.size, 2, none⟩ = some (.string x2)) (first | with_reducible exact ⟨m1, c0, c1, c2⟩ | with_reducible exact ⟨M1, C0, C1, C2⟩ | with_reducible exact ⟨N1, D0, D1, D2⟩ | exact ⟨m1, c0, c1, c2⟩)
   ((first
    | (go_at_call 83; refine (hEn _).mono ?_; rintro e wa ⟨rfl, ba⟩; have M1 := zS ba m1; have C0 := zS ba c0; have C1 := zS ba c1; have C2 := zS ba c2; have TA := T1D.below ba; have zA : W1.heap.size <= wa.heap.size := ba.size; have BA : Below W1.heap.size W1 wa := (below_drew (Below.refl _ _)).trans ba)
    | (go_at_call 82; refine (hAd _ TA.sl).mono ?_; rintro e wb ⟨rfl, v', s', b', z', k', f'⟩; have N1 := cellK M1 (k' Pm (by omega) (by omega) HPm.out); have D0 := cellK C0 (k' w.heap.size (by omega) (by omega) (fun e => by have := HOB.out _ e; omega)); have D1 := cellK C1 (k' w.heap.size (by omega) (by omega) (fun e => by have := HOB.out _ e; omega)); have D2 := cellK C2 (k' w.heap.size (by omega) (by omega) (fun e => by have := HOB.out _ e; omega)))))
  all_goals
   go_wp2
   refine bodyPost_end (results_none rfl _ _ _) rfl ?_
   rw [HE.out]
   obtain ⟨T2, F2⟩ := TA.added s' b' z' k' f'
   exact ⟨rfl, v', T2, (TF.ofBelow (HT1.out.trans (BA.mono HT1.out.size))).trans F2⟩
end Go.Proofs.YtcfnkndbhpdfnaaGreatDoor.Tm
set_option linter.unusedVariables false
namespace Go.Proofs.YtcfnkndbhpdfnaaGreatDoor.Wk
open Go.ChangeShapes Go.WideShapes Go.ChangeAt Go.RowKit
theorem ocell_app (l m : List Ob) (j : Nat) : ocell (l ++ m) (l.length * 2 + j) = ocell m j := by
 unfold ocell
 have e1 : (l.length * 2 + j) % 2 = j % 2 := by omega
 have e2 : (l.length * 2 + j) / 2 = l.length + j / 2 := by omega
 rw [e1, e2]
 have e3 : (l ++ m).getD (l.length + j / 2) onil = m.getD (j / 2) onil := by rw [List.getD, List.getD, List.getElem?_append_right (by omega), show l.length + j / 2 - l.length = j / 2 by omega]
 rw [e3]
theorem ocell_left (l m : List Ob) (j : Nat) (h : j < l.length * 2) : ocell (l ++ m) j = ocell l j := by
 unfold ocell
 have h3 : j / 2 < l.length := by omega
 have e3 : (l ++ m).getD (j / 2) onil = l.getD (j / 2) onil := by simp [List.getD, List.getElem?_append_left h3]
 rw [e3]
theorem ocells_app (l m : List Ob) : ocells (l ++ m) = ocells l ++ ocells m := by
 unfold ocells
 rw [List.length_append, Nat.add_mul, rowG_append]
 congr 1
 ·exact rowG_congr fun j hj => ocell_left l m j hj
 ·exact rowG_congr fun j _ => ocell_app l m j
theorem ocells_one (o : Ob) : ocells [o] = [.string o.1, .string o.2] := by
 unfold ocells rowG
 show (List.range 2).map (ocell [o]) = _
 rw [show List.range 2 = [0, 1] from rfl]
 simp [ocell]
theorem oneW (l : List Ob) : ∀ u ∈ ocells l, u.oneCell' = true := by
 intro u hu
 unfold ocells rowG at hu
 obtain ⟨j, _, rfl⟩ := List.mem_map.1 hu
 unfold ocell
 split <;> rfl
theorem newW (w : World) (f : Ob) : ∀ j u, (ocells [f])[j]? = some u -> (w.alloc (.cells #[.string f.1, .string f.2] 83)).cell? ((⟨w.heap.size, 0, none⟩ : Addr).add j) = some u := by
 intro j u hu
 rw [ocells_one] at hu
 have h := Rs.new w #[.string f.1, .string f.2] 83 j u hu
 rw [add_plain, Nat.zero_add]
 exact h
end Go.Proofs.YtcfnkndbhpdfnaaGreatDoor.Wk
