/- Two stores put together: mathematics. No statement is proved here. -/
import Derived.Test.YtcfnkndbhpdfnaaGreatDoorShTQ
import Derived.Test.YtcfnkndbhpdfnaaGreatDoorSgCQ
import Derived.Test.YtcfnkndbhpdfnaaGreatDoorDiCQ
namespace Go.Proofs.YtcfnkndbhpdfnaaGreatDoor
open Go.ChangeShapes Go.WideShapes Go.ChangeAt Go.RowKit
theorem pL_len {l : List Ob} {k : Int} {d : ByteArray} (h : l.length <= 200) (ha : Asc l) : (pL l k d).length <= 200 := by
 by_cases e : pC l k d = 0
 ·rw [(q_perm ha e).2.length_eq]
  exact q_len h
 ·rw [show pL l k d = [] from if_neg e]; simp
theorem sf_ob {l : List Ob} (h : sf l = 0) (k : Nat) (hk : k < l.length) : inB (l.getD k onil).2.1 1 3 = true /\ (l.getD k onil).1 = idN (l.getD k onil).2.1 (l.getD k onil).2.2 := by
 have hF := (sf_zero h).2 k hk
 unfold obF at hF
 by_cases e : idK (l.getD k onil).2.1 (l.getD k onil).2.2 = 0
 ·rw [if_pos e] at hF
  have hin : inB (l.getD k onil).2.1 1 3 = true /\ tf (l.getD k onil).2.2 = 0 := by
   unfold idK at e
   cases q : inB (l.getD k onil).2.1 1 3 with
   | false => rw [q] at e; simp at e
   | true => rw [q] at e; exact ⟨rfl, e⟩
  by_cases e2 : idT (l.getD k onil).2.1 (l.getD k onil).2.2 = (l.getD k onil).1
  ·refine ⟨hin.1, ?_⟩
   rw [<- e2]
   unfold idT
   rw [if_pos hin.1, if_pos hin.2]
  ·rw [if_neg e2] at hF; omega
 ·rw [if_neg e] at hF; exact absurd hF e
end Go.Proofs.YtcfnkndbhpdfnaaGreatDoor
set_option linter.unusedVariables false
namespace Go.Proofs.YtcfnkndbhpdfnaaGreatDoor.Pv
open Go.RowKit
def som (fs : List Fl.Ob) : List Fl.Ob := fs.filter fun f => decide (¬ f = Fl.onil)
theorem som_yes (fs : List Fl.Ob) (k : Nat) (hk : k < fs.length) (h : ¬ fs.getD k Fl.onil = Fl.onil) : som (fs.take (k + 1)) = som (fs.take k) ++ [fs.getD k Fl.onil] := by
 rw [Fl.ob_take fs k hk]
 unfold som
 rw [List.filter_append, List.filter_cons, if_pos (decide_eq_true h), List.filter_nil]
theorem som_no (fs : List Fl.Ob) (k : Nat) (hk : k < fs.length) (h : fs.getD k Fl.onil = Fl.onil) : som (fs.take (k + 1)) = som (fs.take k) := by
 rw [Fl.ob_take fs k hk]
 unfold som
 rw [List.filter_append, List.filter_cons, if_neg (by rw [h]; simp), List.filter_nil, List.append_nil]
theorem som_len (fs : List Fl.Ob) (k : Nat) : (som (fs.take k)).length <= k := by
 have h1 : (som (fs.take k)).length <= (fs.take k).length := List.length_filter_le _ _
 rw [List.length_take] at h1
 omega
def tx (st : List Ob) (f : Fl.Ob) : ByteArray := (gt st 1 f.2.2).getD ⟨#[]⟩
theorem tx_nil {st : List Ob} (h : sf st = 0) : tx st Fl.onil = ⟨#[]⟩ := by
 unfold tx
 rw [show gt st 1 Fl.onil.2.2 = none from gt_noid h rfl]
 rfl
theorem tx_size {st : List Ob} (h : SmallO st) (f : Fl.Ob) : (tx st f).size <= 1048576 := by
 unfold tx
 rcases fz_cases st f.2.2 with e | ⟨n, e, hn, _⟩
 ·rw [gt_less e]; exact Nat.zero_le _
 ·by_cases e2 : (st.getD n onil).2.1 = 1
  ·rw [gt_yes e e2]
   exact (h _ (ob_mem st n hn)).2
  ·rw [gt_no e e2]; exact Nat.zero_le _
theorem fo_tx (st : List Ob) (f : Fl.Ob) : (fo st 1 f.2.2).2.2 = tx st f := by
 unfold fo tx
 cases gt st 1 f.2.2 with
 | none => rfl
 | some d => rfl
def bin3 (x y z : ByteArray) : Bool := binB x.data.toList || (binB y.data.toList || binB z.data.toList)
end Go.Proofs.YtcfnkndbhpdfnaaGreatDoor.Pv
namespace Go.Proofs.YtcfnkndbhpdfnaaGreatDoor
open Go.ChangeShapes Go.WideShapes Go.ChangeAt Go.RowKit
theorem p_none {l : List Ob} {k : Int} {d : ByteArray} (h : ¬ pC l k d = 0) : pL l k d = [] /\ pS l k d = ByteArray.empty := ⟨if_neg h, if_neg h⟩
theorem idK_in {k : Int} {d : ByteArray} (h : idK k d = 0) : inB k 1 3 = true /\ tf d = 0 := by
 unfold idK at h
 cases e : inB k 1 3 with
 | false => rw [e] at h; simp at h
 | true => rw [e] at h; exact ⟨rfl, h⟩
theorem idT_ok {k : Int} {d : ByteArray} (h : idK k d = 0) : idT k d = idN k d := by
 obtain ⟨h1, h2⟩ := idK_in h
 unfold idT
 rw [if_pos h1, if_pos h2]
end Go.Proofs.YtcfnkndbhpdfnaaGreatDoor
namespace Go.Proofs.YtcfnkndbhpdfnaaGreatDoor
open Go.ChangeShapes Go.WideShapes Go.ChangeAt Go.RowKit
theorem Rf.belowAt {w w' : World} {b B : Nat} {vs : List Value} (h : Rf w b vs) (hp : b < B) (hb : Below B w w') : Rf w' b vs :=
 ⟨fun k v hk => (hb.cell (p := ⟨b, k, none⟩) hp).trans (h.at_ k v hk), fun k => by
  have e := hb.block b hp
  have h1 := h.fz k
  unfold World.frozen? at h1 ⊢
  rw [e]; exact h1⟩
theorem Rf.ofBlock {w w' : World} {b : Nat} {vs : List Value} (h : Rf w b vs) (e : w'.heap[b]? = w.heap[b]?) : Rf w' b vs :=
 ⟨fun k v hk => by have := h.at_ k v hk; unfold World.cell? at this ⊢; rw [e]; exact this, fun k => by have := h.fz k; unfold World.frozen? at this ⊢; rw [e]; exact this⟩
def aC (l : List Ob) (k : Int) (d : ByteArray) : Int := if idK k d = 0 then pC l k d else idK k d
def aS (l : List Ob) (k : Int) (d : ByteArray) : ByteArray := if idK k d = 0 then pS l k d else ByteArray.empty
def aL (l : List Ob) (k : Int) (d : ByteArray) : List Ob := if idK k d = 0 then qL l k d else l
theorem a_no {l : List Ob} {k : Int} {d : ByteArray} (h : ¬ idK k d = 0) : aC l k d = idK k d /\ aS l k d = ByteArray.empty /\ aL l k d = l := ⟨if_neg h, if_neg h, if_neg h⟩
theorem a_ok {l : List Ob} {k : Int} {d : ByteArray} (h : idK k d = 0) : aC l k d = pC l k d /\ aS l k d = pS l k d /\ aL l k d = qL l k d := ⟨if_pos h, if_pos h, if_pos h⟩
def AD (p b : Nat) (C : Int) (S : ByteArray) (L : List Ob) (w : World) (e : Ending) (w' : World) : Prop := e = .returned (.tuple #[.string S, .int .i64 C]) /\ Rf w' p [.map (some b), .int .i64 (L.length : Int)] /\ Sh w' b L /\ Below b w w' /\ w.heap.size <= w'.heap.size /\ PK b p w w'
theorem AD.drewN {p b : Nat} {C : Int} {S : ByteArray} {L : List Ob} {w W : World} {e : Ending} (h : AD p b C S L w e W) (hp : p < W.heap.size) (n : Nat) : AD p b C S L w e (W.drewN n) := by
 obtain ⟨h1, h2, h3, h4, h5, h6⟩ := h
 have X : Below W.heap.size W (W.drewN n) := below_drewN' (Below.refl _ W) n
 exact ⟨h1, h2.below hp X, h3.below X, below_drewN' h4 n, Nat.le_trans h5 X.size, fun k hk a1 a2 => (X.block k (by omega)).trans (h6 k hk a1 a2)⟩
theorem ad_of {p b : Nat} {C D : Int} {S T : ByteArray} {L M : List Ob} {w w' : World} {e : Ending} (h : AD p b C S L w e w') (h1 : D = C) (h2 : T = S) (h3 : M = L) : AD p b D T M w e w' := by rw [h1, h2, h3]; exact h
set_option maxRecDepth 20000 in
set_option maxHeartbeats 2000000 in
theorem addC (p b : Nat) (l : List Ob) (k : Int) (d : ByteArray) (w : World) (hR : Rf w p [.map (some b), .int .i64 (l.length : Int)]) (hbp : b < p) (hp : p < w.heap.size) (hS : Sh w b l) (hd : d.size <= 1048576) :
  Calls Tryz.prog 93 #[.pointer (some ⟨p, 0, none⟩), .int .i64 k, .string d] w fun e w' => AD p b (aC l k d) (aS l k d) (aL l k d) w e w' := by
 have hI := fun w => implIdOf k d w hd
 have hPu := fun w => putW p b l k d w
 have hNo : ¬ pC l k d = 0 -> pL l k d = [] /\ pS l k d = ByteArray.empty := fun e => p_none e
 have hYe : pC l k d = 0 -> pS l k d = idN k d := fun e => if_pos e
 have hbw : b < w.heap.size := by omega
 go_enter Tryz.func93, Tryz.ntmps93
 go_wp2_with fail
 refine (hI _).mono ?_; rintro e w3 ⟨rfl, b3⟩
 have R3 := hR.below hp b3
 have S3 := hS.below b3
 have z3 := b3.size
 obtain ⟨W4, hW4⟩ : ∃ W, w3.alloc (.cells #[.int .i64 0, .string ⟨#[]⟩] 73) = W := ⟨_, rfl⟩
 have b4 : Below w3.heap.size w3 W4 := by rw [<- hW4]; exact allocBelow _ _
 have z4 : W4.heap.size = w3.heap.size + 1 := by rw [<- hW4]; simp
 have t4 : Rf W4 w3.heap.size [.int .i64 0, .string ⟨#[]⟩] := by rw [<- hW4]; exact Rf.new _ _ _
 have u0 := t4.at_ 0 _ rfl
 have u1 := t4.at_ 1 _ rfl
 have g0 := t4.fz 0
 have g1 := t4.fz 1
 have t5 := (t4.set (o := 0) (by simp) (.int .i64 (idK k d))).set (o := 1) (by simp) (.string (idT k d))
 have bS : Below w3.heap.size w3 ((W4.setCell ⟨w3.heap.size, 0, none⟩ (.int .i64 (idK k d))).setCell ⟨w3.heap.size, 1, none⟩ (.string (idT k d))) := below_sets b4 (Nat.le_refl _) _ _
 have z5 : ((W4.setCell ⟨w3.heap.size, 0, none⟩ (.int .i64 (idK k d))).setCell ⟨w3.heap.size, 1, none⟩ (.string (idT k d))).heap.size = w3.heap.size + 1 := by simp [z4]
 obtain ⟨W5, hW5⟩ : ∃ W, (W4.setCell ⟨w3.heap.size, 0, none⟩ (.int .i64 (idK k d))).setCell ⟨w3.heap.size, 1, none⟩ (.string (idT k d)) = W := ⟨_, rfl⟩
 rw [hW5] at t5 bS z5
 have R5 := R3.below (by omega) bS
 have S5 := S3.below bS
 have PK5 : PK b p w W5 := fun j hj _ _ => (bS.block j (by omega)).trans (b3.block j hj)
 have B5 : Below b w W5 := (b3.mono (by omega)).trans (bS.mono (by omega))
 replace t5 : Rf W5 w3.heap.size [.int .i64 (idK k d), .string (idT k d)] := t5
 have k0 := t5.at_ 0 _ rfl
 have k1 := t5.at_ 1 _ rfl
 have zl : w.heap.size <= W5.heap.size := by omega
 have z5l : w3.heap.size < W5.heap.size := by omega
 clear t4 R3 S3 b3 bS b4 z4 z5 hR hS hI
 by_cases eK : idK k d = 0
 rotate_left
 ·obtain ⟨h1, h2, h3⟩ := a_no (l := l) eK
  have H : Hid (aC l k d = idK k d /\ aS l k d = ByteArray.empty /\ aL l k d = l) := ⟨h1, h2, h3⟩
  have qK : (idK k d != 0) = true := ne_beq eK
  clear h1 h2 h3 hPu hNo hYe
  go_wp2
  go_quiet (fail)
  go_wp2
  go_ret2
  exact ad_of (AD.drewN ⟨rfl, R5, S5, B5, zl, PK5⟩ (by omega) _) H.out.1 H.out.2.1 H.out.2.2
 obtain ⟨h1, h2, h3⟩ := a_ok (l := l) eK
 have H : Hid (aC l k d = pC l k d /\ aS l k d = pS l k d /\ aL l k d = qL l k d) := ⟨h1, h2, h3⟩
 have qK : (idK k d != 0) = false := by rw [eK]; rfl
 have eT := idT_ok eK
 rw [eT] at k1 t5 hW5
 rw [eK] at k0 t5 hW5
 rw [eK, eT]
 clear h1 h2 h3 qK eK eT
 go_wp2_with fail
 refine (hPu _ R5 hbp (by omega) S5).mono ?_; rintro e w7 ⟨rfl, R7, S7, b7, z7, pk⟩
 have t7 : Rf w7 w3.heap.size [.int .i64 0, .string (idN k d)] := Rf.ofBlock t5 (pk _ (by omega) (by omega) (by omega))
 have B7 : Below b w w7 := B5.trans b7
 have k1 := t7.at_ 1 _ rfl
 have PK7 : PK b p w w7 := fun j hj h1 h2 => (pk j (by omega) h1 h2).trans (PK5 j hj h1 h2)
 clear R5 S5 B5 b7 t5 t7 k0 hPu PK5 pk
 by_cases eC : pC l k d = 0
 ·have HY : Hid (pS l k d = idN k d) := hYe eC
  have qC : (pC l k d != 0) = false := by rw [eC]; rfl
  have H0 : Hid (pC l k d = 0) := eC
  rw [eC]
  clear hNo hYe qC eC
  go_wp2
  go_ret2
  exact ad_of ⟨rfl, R7, S7, B7, by omega, PK7⟩ (H.out.1.trans H0.out) (H.out.2.1.trans HY.out) H.out.2.2
 ·have HN : Hid (pS l k d = ByteArray.empty) := (hNo eC).2
  obtain ⟨C, hC⟩ : ∃ C, pC l k d = C := ⟨_, rfl⟩
  have qC : (C != 0) = true := by rw [<- hC]; exact ne_beq eC
  have H0 : Hid (pC l k d = C) := hC
  rw [hC]
  clear hNo hYe eC hC
  go_wp2
  go_ret2
  exact ad_of ⟨rfl, R7, S7, B7, by omega, PK7⟩ (H.out.1.trans H0.out) (H.out.2.1.trans HN.out) H.out.2.2
end Go.Proofs.YtcfnkndbhpdfnaaGreatDoor
