/- The contracts of PutObject (the program's and the specification's). No statement is proved here. -/
import Derived.Test.YtgincoiehbdphaaGreatDoorShTQ
namespace Go.Proofs.YtgincoiehbdphaaGreatDoor
open Go.ChangeShapes Go.WideShapes Go.ChangeAt Go.RowKit
def poR (l : List Ob) (k : Int) (d : ByteArray) : Int := if sf l = 0 then (if idK k d = 0 then pC l k d else idK k d) else sf l
theorem p_none {l : List Ob} {k : Int} {d : ByteArray} (h : ¬ pC l k d = 0) : pL l k d = [] /\ pS l k d = ByteArray.empty := ⟨if_neg h, if_neg h⟩
theorem idK_in {k : Int} {d : ByteArray} (h : idK k d = 0) : inB k 1 3 = true /\ tf d = 0 := by
 unfold idK at h
 cases e : inB k 1 3 with
 | false => rw [e] at h; simp at h
 | true => rw [e] at h; exact ⟨rfl, h⟩
theorem idT_ok {k : Int} {d : ByteArray} (h : idK k d = 0) : idT k d = idN k d := by
 obtain ⟨h1, h2⟩ := idK_in h
 unfold idT
 rw [if_pos h1, if_pos h2]
theorem ownMonoO {w : World} {base b : Nat} {e : TypeId} {s : Nat} {v : Value} {n : Nat} {xs : List Value} (h : w.ownsRow base e s v n xs) (hb : b <= base) : w.ownsRow b e s v n xs := by
 obtain ⟨h1, h2⟩ := h
 refine ⟨h1, ?_⟩
 rcases h2 with h2 | ⟨g, c, cur, e1, e2, e3⟩
 ·exact .inl h2
 ·exact .inr ⟨g, c, cur, e1, by omega, e3⟩
end Go.Proofs.YtgincoiehbdphaaGreatDoor
namespace Go.Proofs.YtgincoiehbdphaaGreatDoor
open Go.ChangeShapes Go.WideShapes Go.ChangeAt Go.RowKit
theorem Rf.ofBlock {w w' : World} {b : Nat} {vs : List Value} (h : Rf w b vs) (e : w'.heap[b]? = w.heap[b]?) : Rf w' b vs :=
 ⟨fun k v hk => by have := h.at_ k v hk; unfold World.cell? at this ⊢; rw [e]; exact this, fun k => by have := h.fz k; unfold World.frozen? at this ⊢; rw [e]; exact this⟩
def aC (l : List Ob) (k : Int) (d : ByteArray) : Int := if idK k d = 0 then pC l k d else idK k d
def aS (l : List Ob) (k : Int) (d : ByteArray) : ByteArray := if idK k d = 0 then pS l k d else ByteArray.empty
def aL (l : List Ob) (k : Int) (d : ByteArray) : List Ob := if idK k d = 0 then qL l k d else l
theorem a_no {l : List Ob} {k : Int} {d : ByteArray} (h : ¬ idK k d = 0) : aC l k d = idK k d /\ aS l k d = ByteArray.empty /\ aL l k d = l := ⟨if_neg h, if_neg h, if_neg h⟩
theorem a_ok {l : List Ob} {k : Int} {d : ByteArray} (h : idK k d = 0) : aC l k d = pC l k d /\ aS l k d = pS l k d /\ aL l k d = qL l k d := ⟨if_pos h, if_pos h, if_pos h⟩
def AD (p b : Nat) (C : Int) (S : ByteArray) (L : List Ob) (w : World) (e : Ending) (w' : World) : Prop := e = .returned (.tuple #[.string S, .int .i64 C]) /\ Rf w' p [.map (some b), .int .i64 (L.length : Int)] /\ Sh w' b L /\ Below b w w' /\ w.heap.size <= w'.heap.size /\ PK b p w w'
theorem AD.drewN {p b : Nat} {C : Int} {S : ByteArray} {L : List Ob} {w W : World} {e : Ending} (h : AD p b C S L w e W) (hp : p < W.heap.size) (n : Nat) : AD p b C S L w e (W.drewN n) := by
 obtain ⟨h1, h2, h3, h4, h5, h6⟩ := h
 have X : Below W.heap.size W (W.drewN n) := below_drewN' (Below.refl _ W) n
 exact ⟨h1, h2.below hp X, h3.below X, below_drewN' h4 n, Nat.le_trans h5 X.size, fun k hk a1 a2 => (X.block k (by omega)).trans (h6 k hk a1 a2)⟩
theorem ad_of {p b : Nat} {C D : Int} {S T : ByteArray} {L M : List Ob} {w w' : World} {e : Ending} (h : AD p b C S L w e w') (h1 : D = C) (h2 : T = S) (h3 : M = L) : AD p b D T M w e w' := by rw [h1, h2, h3]; exact h
set_option maxRecDepth 20000 in
set_option maxHeartbeats 2000000 in
theorem addC (p b : Nat) (l : List Ob) (k : Int) (d : ByteArray) (w : World) (hR : Rf w p [.map (some b), .int .i64 (l.length : Int)]) (hbp : b < p) (hp : p < w.heap.size) (hS : Sh w b l) (hd : d.size <= 1048576) :
  Calls Tryz.prog 71 #[.pointer (some ⟨p, 0, none⟩), .int .i64 k, .string d] w fun e w' => AD p b (aC l k d) (aS l k d) (aL l k d) w e w' := by
 have hI := fun w => implIdOf k d w hd
 have hPu := fun w => putW p b l k d w
 have hNo : ¬ pC l k d = 0 -> pL l k d = [] /\ pS l k d = ByteArray.empty := fun e => p_none e
 have hYe : pC l k d = 0 -> pS l k d = idN k d := fun e => if_pos e
 have hbw : b < w.heap.size := by omega
 go_enter Tryz.func71, Tryz.ntmps71
 go_wp2_with fail
 refine (hI _).mono ?_; rintro e w3 ⟨rfl, b3⟩
 have R3 := hR.below hp b3
 have S3 := hS.below b3
 have z3 := b3.size
 obtain ⟨W4, hW4⟩ : ∃ W, w3.alloc (.cells #[.int .i64 0, .string ⟨#[]⟩] 98) = W := ⟨_, rfl⟩
 have b4 : Below w3.heap.size w3 W4 := by rw [<- hW4]; exact allocBelow _ _
 have z4 : W4.heap.size = w3.heap.size + 1 := by rw [<- hW4]; simp
 have t4 : Rf W4 w3.heap.size [.int .i64 0, .string ⟨#[]⟩] := by rw [<- hW4]; exact Rf.new _ _ _
 have u0 := t4.at_ 0 _ rfl
 have u1 := t4.at_ 1 _ rfl
 have g0 := t4.fz 0
 have g1 := t4.fz 1
 have t5 := (t4.set (o := 0) (by simp) (.int .i64 (idK k d))).set (o := 1) (by simp) (.string (idT k d))
 have bS : Below w3.heap.size w3 ((W4.setCell ⟨w3.heap.size, 0, none⟩ (.int .i64 (idK k d))).setCell ⟨w3.heap.size, 1, none⟩ (.string (idT k d))) := below_sets b4 (Nat.le_refl _) _ _
 have z5 : ((W4.setCell ⟨w3.heap.size, 0, none⟩ (.int .i64 (idK k d))).setCell ⟨w3.heap.size, 1, none⟩ (.string (idT k d))).heap.size = w3.heap.size + 1 := by simp [z4]
 obtain ⟨W5, hW5⟩ : ∃ W, (W4.setCell ⟨w3.heap.size, 0, none⟩ (.int .i64 (idK k d))).setCell ⟨w3.heap.size, 1, none⟩ (.string (idT k d)) = W := ⟨_, rfl⟩
 rw [hW5] at t5 bS z5
 have R5 := R3.below (by omega) bS
 have S5 := S3.below bS
 have PK5 : PK b p w W5 := fun j hj _ _ => (bS.block j (by omega)).trans (b3.block j hj)
 have B5 : Below b w W5 := (b3.mono (by omega)).trans (bS.mono (by omega))
 replace t5 : Rf W5 w3.heap.size [.int .i64 (idK k d), .string (idT k d)] := t5
 have k0 := t5.at_ 0 _ rfl
 have k1 := t5.at_ 1 _ rfl
 have zl : w.heap.size <= W5.heap.size := by omega
 have z5l : w3.heap.size < W5.heap.size := by omega
 clear t4 R3 S3 b3 bS b4 z4 z5 hR hS hI
 by_cases eK : idK k d = 0
 rotate_left
 ·obtain ⟨h1, h2, h3⟩ := a_no (l := l) eK
  have H : Hid (aC l k d = idK k d /\ aS l k d = ByteArray.empty /\ aL l k d = l) := ⟨h1, h2, h3⟩
  have qK : (idK k d != 0) = true := ne_beq eK
  clear h1 h2 h3 hPu hNo hYe
  go_wp2
  go_quiet (fail)
  go_wp2
  go_ret2
  exact ad_of (AD.drewN ⟨rfl, R5, S5, B5, zl, PK5⟩ (by omega) _) H.out.1 H.out.2.1 H.out.2.2
 obtain ⟨h1, h2, h3⟩ := a_ok (l := l) eK
 have H : Hid (aC l k d = pC l k d /\ aS l k d = pS l k d /\ aL l k d = qL l k d) := ⟨h1, h2, h3⟩
 have qK : (idK k d != 0) = false := by rw [eK]; rfl
 have eT := idT_ok eK
 rw [eT] at k1 t5 hW5
 rw [eK] at k0 t5 hW5
 rw [eK, eT]
 clear h1 h2 h3 qK eK eT
 go_wp2_with fail
 refine (hPu _ R5 hbp (by omega) S5).mono ?_; rintro e w7 ⟨rfl, R7, S7, b7, z7, pk⟩
 have t7 : Rf w7 w3.heap.size [.int .i64 0, .string (idN k d)] := Rf.ofBlock t5 (pk _ (by omega) (by omega) (by omega))
 have B7 : Below b w w7 := B5.trans b7
 have k1 := t7.at_ 1 _ rfl
 have PK7 : PK b p w w7 := fun j hj h1 h2 => (pk j (by omega) h1 h2).trans (PK5 j hj h1 h2)
 clear R5 S5 B5 b7 t5 t7 k0 hPu PK5 pk
 by_cases eC : pC l k d = 0
 ·have HY : Hid (pS l k d = idN k d) := hYe eC
  have qC : (pC l k d != 0) = false := by rw [eC]; rfl
  have H0 : Hid (pC l k d = 0) := eC
  rw [eC]
  clear hNo hYe qC eC
  go_wp2
  go_ret2
  exact ad_of ⟨rfl, R7, S7, B7, by omega, PK7⟩ (H.out.1.trans H0.out) (H.out.2.1.trans HY.out) H.out.2.2
 ·have HN : Hid (pS l k d = ByteArray.empty) := (hNo eC).2
  obtain ⟨C, hC⟩ : ∃ C, pC l k d = C := ⟨_, rfl⟩
  have qC : (C != 0) = true := by rw [<- hC]; exact ne_beq eC
  have H0 : Hid (pC l k d = C) := hC
  rw [hC]
  clear hNo hYe eC hC
  go_wp2
  go_ret2
  exact ad_of ⟨rfl, R7, S7, B7, by omega, PK7⟩ (H.out.1.trans H0.out) (H.out.2.1.trans HN.out) H.out.2.2
end Go.Proofs.YtgincoiehbdphaaGreatDoor
namespace Go.Proofs.YtgincoiehbdphaaGreatDoor
open Go.ChangeShapes Go.WideShapes Go.ChangeAt Go.RowKit
theorem fz_miss {l : List Ob} {id : ByteArray} (h : ∀ o ∈ l, o.1 ≠ id) : fz l id = -1 := by
 rcases fz_cases l id with e | ⟨n, e, hn, e2⟩
 ·exact e
 ·exact absurd e2 (h _ (ob_mem l n hn))
theorem fz_perm {M O : List Ob} {id : ByteArray} (hp : M.Perm O) : fz M id = -1 ↔ fz O id = -1 :=
 ⟨fun h => fz_miss fun o ho => fz_out h o (hp.mem_iff.2 ho), fun h => fz_miss fun o ho => fz_out h o (hp.mem_iff.1 ho)⟩
theorem ids_inj {l : List Ob} (hd : (l.map fun o => o.1).Nodup) {o p : Ob} (ho : o ∈ l) (hp : p ∈ l) (e : o.1 = p.1) : o = p := by
 induction l with
 | nil => cases ho
 | cons x t ih =>
  rw [List.map_cons, List.nodup_cons] at hd
  rcases List.mem_cons.1 ho with ho1 | ho1
  ·rcases List.mem_cons.1 hp with hp1 | hp1
   ·rw [ho1, hp1]
   ·exact absurd (List.mem_map.2 ⟨p, hp1, by rw [<- e, ho1]⟩) hd.1
  ·rcases List.mem_cons.1 hp with hp1 | hp1
   ·exact absurd (List.mem_map.2 ⟨o, ho1, by rw [e, hp1]⟩) hd.1
   ·exact ih hd.2 ho1 hp1
theorem pC_perm {M O : List Ob} {k : Int} {d : ByteArray} (hp : M.Perm O) (hd : (O.map fun o => o.1).Nodup) : pC M k d = pC O k d := by
 rcases fz_cases O (idN k d) with e | ⟨m, e, hm, e2⟩
 ·have e' := (fz_perm (id := idN k d) hp).2 e
  have hl := hp.length_eq
  by_cases h200 : 200 <= O.length
  ·rw [(p_full e h200).1, (p_full e' (by omega)).1]
  ·rw [(p_new e h200).1, (p_new e' (by omega)).1]
 ·rcases fz_cases M (idN k d) with e' | ⟨n, e', hn, e2'⟩
  ·have := (fz_perm (id := idN k d) hp).1 e'
   omega
  ·have ho := ob_mem O m hm
   have ho' := hp.mem_iff.1 (ob_mem M n hn)
   have es : M.getD n onil = O.getD m onil := ids_inj hd ho' ho (by rw [e2, e2'])
   by_cases ed : (O.getD m onil).2.2 = d
   ·rw [(p_same e ed).1, (p_same e' (by rw [es]; exact ed)).1]
   ·rw [(p_other e ed).1, (p_other e' (by rw [es]; exact ed)).1]
theorem qL_perm {M O : List Ob} {k : Int} {d : ByteArray} (hp : M.Perm O) : (qL M k d).Perm (qL O k d) := by
 unfold qL
 have hl := hp.length_eq
 by_cases h : fz O (idN k d) = -1 /\ ¬ 200 <= O.length
 ·rw [if_pos h, if_pos ⟨(fz_perm hp).2 h.1, by omega⟩]
  exact hp.append_right _
 ·rw [if_neg h, if_neg (fun q => h ⟨(fz_perm hp).1 q.1, by omega⟩)]
  exact hp
theorem pL_len {l : List Ob} {k : Int} {d : ByteArray} (h : l.length <= 200) (ha : Asc l) : (pL l k d).length <= 200 := by
 by_cases e : pC l k d = 0
 ·rw [(q_perm ha e).2.length_eq]
  exact q_len h
 ·rw [show pL l k d = [] from if_neg e]; simp
end Go.Proofs.YtgincoiehbdphaaGreatDoor
namespace Go.Proofs.YtgincoiehbdphaaGreatDoor
open Go.ChangeShapes Go.WideShapes Go.ChangeAt Go.RowKit
end Go.Proofs.YtgincoiehbdphaaGreatDoor
namespace Go.Proofs.YtgincoiehbdphaaGreatDoor
open Go.ChangeShapes Go.WideShapes Go.ChangeAt Go.RowKit
theorem notNil {w : World} {base : Nat} {e : TypeId} {s : Nat} {v : Value} {n : Nat} {xs : List Value} (h : w.ownsRow base e s v n xs) (hv : v ≠ .slice none 0 0) : ∃ g c, v = .slice (some ⟨g, 0, none⟩) n c /\ n <= c := by
 rcases h.2 with ⟨h', _⟩ | ⟨g, c, cur, h', _, _, h1, _⟩
 ·exact absurd h' hv
 ·exact ⟨g, c, h', h1⟩
end Go.Proofs.YtgincoiehbdphaaGreatDoor
