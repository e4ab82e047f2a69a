/- Proved: at every []byte FnResolves returns true (sides that are changed twice are as they were; a path that is resolved does not clash any more, one path less clashes, and the files of all other paths stay, at every stage). Its condition: the laid variables hold what the row says (the tied card FnResolvesCardSaid). -/
import Derived.Test.YtipdebodanhooaaDoorRows
import Derived.Test.YtipdebodanhooaaDoorLemQ
import Derived.Test.YtipdebodanhooaaDoorLFLemQ
import Derived.Test.YtipdebodanhooaaDoorDTabQ
import Derived.Test.YtipdebodanhooaaDoorHkTQ
import Derived.Test.YtipdebodanhooaaDoorFlLQ
import Derived.Test.YtipdebodanhooaaDoorEnLQ
import Derived.Test.YtipdebodanhooaaDoorIxMQ
import Derived.Test.YtipdebodanhooaaDoorIxNQ
import Derived.Test.YtipdebodanhooaaDoorSlBQ
import Derived.Test.YtipdebodanhooaaDoorInEQ
import Derived.Test.YtipdebodanhooaaDoorSwMQ
import Derived.Test.YtipdebodanhooaaDoorSgCQ
import Derived.Test.YtipdebodanhooaaDoorSsBQ
import Derived.Test.YtipdebodanhooaaDoorClIQ
import Derived.Test.YtipdebodanhooaaDoorClQQ
import Derived.Test.YtipdebodanhooaaDoorIxIQ
import Derived.Test.YtipdebodanhooaaDoorIxSQ
import Derived.Test.YtipdebodanhooaaDoorSwCQ
import Derived.Test.YtipdebodanhooaaDoorRsDQ
import Derived.Test.YtipdebodanhooaaDoorRsSQ
import Derived.Test.YtipdebodanhooaaDoorRsKQ
import Derived.Test.YtipdebodanhooaaDoorLwEQ
import Derived.Test.YtipdebodanhooaaDoorDrawQ
import Derived.Test.YtipdebodanhooaaDoorDraw30Q
import Derived.Test.YtipdebodanhooaaDoorDraw32Q
import Derived.Test.YtipdebodanhooaaDoorTie
import Derived.Test.YtipdebodanhooaaDoorCards
import Derived.WalkKit
import Derived.ProofKit
import Derived.OpenShut
import Derived.Below
import Derived.Carry
import Derived.ChangeVars
import Derived.OpenVars
import Derived.LaidMore
import Derived.Lay
import Derived.SevenTiedAt
import Derived.Stop.Joined
import Derived.JoinedOf
import Derived.WalkSpells
import Derived.Deep.QuietTactic
import Derived.BigQuiet
import Derived.Deep.RegionWith
import Derived.Deep.RegionHeld
import Derived.Deep.Cut
import Derived.Deep.CutRange
import Derived.Maps.AppendAt
namespace Go.Proofs.YtipdebodanhooaaDoor.RsF
open Go.ChangeShapes Go.WideShapes Go.ChangeAt Go.RowKit
open Go.Proofs.YtipdebodanhooaaDoor.En
set_option linter.unusedVariables false
theorem takeD {P : Program} {md : Region.Mode} {ops : Array Oper} {Q : Exit → Act → World → Prop} {S : World → Prop} {i d : Nat} {oi : Oper} {v : Value} {fuel : Nat} {listed listed' : Array Bool} {a : Act} {w : World} (hi : ops[i]? = some oi)
    (hs : Region.noSelect ops = true) (hf : Region.free md ops listed i = true) (hr : (Region.ready md ops listed).contains i = true)
    (hQ : ∀ c a w, Q (.panic c) (a.put oi.dst v) w → Q (.panic c) a w) (hy : YieldsIf P ops S oi v a) (hS : S w) (hd : oi.dst = some d) (hl : listed.setIfInBounds i true = listed')
    (h : wpAnyH P md ops Q S fuel listed' (a.put (some d) v) w) : wpAnyH P md ops Q S (fuel + 1) listed a w := by
  subst hl
  exact wpAnyH_take hi hs hf hr hQ hy hS (by rw [hd]; exact h)
theorem lwBig (a : Option Addr) (n cap : Nat) (w : World) : Calls Tryd.prog 4 #[.slice a n cap] w fun e w' => e = .returned (.bool (decide ((1048576 : Int) < (n : Int)))) ∧ w' = w := by
  go_enter Tryd.func4, Tryd.ntmps4
  go_wp2
  go_ret
  exact ⟨rfl, rfl⟩
theorem small_of {l : List Ob} (h : ∀ o ∈ l, EOk o) : SmallO l := fun o ho => ⟨by have := (h o ho).1; omega, by have := (h o ho).2; omega⟩
theorem nb_of {p : ByteArray} {c : List ByteArray} (h : hasB c p = false) : ∀ x ∈ c, ¬ x = p := fun x hx e => by
  rw [hasB_mem.2 (e ▸ hx)] at h; cases h
/-- What stands: the index, what came of it, the answer's variable. -/
structure FW (w : World) (L R : List Ob) (g c : Nat) (ra : Option Addr) (rc p : Nat) (C : Int) (W : World) : Prop where
  lst : OB W.heap.size W (some ⟨g, 0, none⟩) L
  res : OB W.heap.size W ra R
  var : Rf W p [.int .i64 C, .int .i64 0, .slice ra R.length rc]
  sz : p < W.heap.size
  bel : Below w.heap.size w W
  le : w.heap.size ≤ W.heap.size
theorem FW.below {w : World} {L R : List Ob} {g c : Nat} {ra : Option Addr} {rc p : Nat} {C : Int} {W W' : World} (h : FW w L R g c ra rc p C W) (hb : Below W.heap.size W W') : FW w L R g c ra rc p C W' :=
  ⟨(h.lst.below hb).mono hb.size, (h.res.below hb).mono hb.size, h.var.below h.sz hb, Nat.lt_of_lt_of_le h.sz hb.size, h.bel.trans (hb.mono h.le), Nat.le_trans h.le hb.size⟩
theorem FW.drewN {w : World} {L R : List Ob} {g c : Nat} {ra : Option Addr} {rc p : Nat} {C : Int} {W : World} (h : FW w L R g c ra rc p C W) (n : Nat) : FW w L R g c ra rc p C (W.drewN n) := h.below (below_drewN' (Below.refl _ _) _)
theorem flBA {B b : Nat} {w w' : World} {a : Option Addr} {l : List Fl.Ob} (h : Fl.OB B w a l) (hb : Below b w w') (hB : B ≤ b) : Fl.OB B w' a l := fun k hk => by
  obtain ⟨g, off, e, hg, d0, d1, d2⟩ := h k hk
  have q : g < b := by omega
  exact ⟨g, off, e, hg, (hb.cell (p := ⟨g, _, none⟩) q).trans d0, (hb.cell (p := ⟨g, _, none⟩) q).trans d1, (hb.cell (p := ⟨g, _, none⟩) q).trans d2⟩
/-- A list of files that is gone through: those of a path left out. -/
theorem off_next {X : List Fl.Ob} {p : ByteArray} {k : Nat} (h : k < X.length) : (X.take (k + 1)).filter (offF p) = (X.take k).filter (offF p) ++ (if offF p (X.getD k Fl.onil) = true then [X.getD k Fl.onil] else []) := by
  rw [Fl.ob_take X k h, List.filter_append]
  congr 1
  rw [List.filter_cons, List.filter_nil]
theorem off_yes {X : List Fl.Ob} {p : ByteArray} {k : Nat} (h : k < X.length) (e : ¬ (X.getD k Fl.onil).1 = p) : (X.take (k + 1)).filter (offF p) = (X.take k).filter (offF p) ++ [X.getD k Fl.onil] := by
  rw [off_next h, if_pos (offF_yes e)]
theorem off_no {X : List Fl.Ob} {p : ByteArray} {k : Nat} (h : k < X.length) (e : (X.getD k Fl.onil).1 = p) : (X.take (k + 1)).filter (offF p) = (X.take k).filter (offF p) := by
  rw [off_next h, if_neg (by rw [offF_no e]; decide), List.append_nil]
theorem off_len (X : List Fl.Ob) (p : ByteArray) (k : Nat) : ((X.take k).filter (offF p)).length ≤ X.length := Nat.le_trans (List.length_filter_le _ _) (by rw [List.length_take]; omega)
set_option maxRecDepth 20000 in
set_option maxHeartbeats 16000000 in
theorem walk (a : Option Addr) (n cap : Nat) (w : World) (h : Bts w a n) (hm : n ≤ 9223372036854775807) :
    Calls Tryd.prog 3 #[.slice a n cap] w fun e w' => e = .returned (.bool true) ∧ Below w.heap.size w w' := by
  by_cases hbig : (1048576 : Int) < (n : Int)
  · go_enter Tryd.func3, Tryd.ntmps3
    go_wp2_with (go_at_call 4; refine (lwBig _ _ _ _).mono ?_; rintro e w' ⟨rfl, rfl⟩)
    go_ret
    exact ⟨rfl, Below.refl _ _⟩
  have hn : n ≤ 1048576 := by omega
  go_enter Tryd.func3, Tryd.ntmps3
  go_wp2_with fail
  refine (lwBig _ _ _ _).mono ?_; rintro e w ⟨rfl, rfl⟩
  go_wp2_with fail
  refine (drawResolvePath a n cap _ h (by omega)).mono ?_; rintro e w1 ⟨L, g, c, p, i, m, rfl, hL, hok, hp, hi, oL, b1⟩
  have hsm := small_of hok
  have A1 : OB w1.heap.size w1 (some ⟨g, 0, none⟩) L := OB.of oL
  have z1 : w.heap.size ≤ w1.heap.size := b1.size
  clear h hok oL hbig hm
  go_wp2_with fail
  refine (implResolvePath _ c L p m i w1 A1 hsm (by omega) (by omega) (by omega)).mono ?_; rintro e w2 ⟨vR, rfl, oR, b2⟩
  obtain ⟨ra, rc, rfl⟩ := shapeK3 oR
  have hall := fun e => rs_all (l := L) (p := p) (m := m) (i := i) e
  obtain ⟨R, hR⟩ : ∃ R, rsL L p m i = R := ⟨_, rfl⟩
  obtain ⟨C, hC⟩ : ∃ C, rsC L p m i = C := ⟨_, rfl⟩
  rw [hR] at oR
  rw [hR, hC] at hall ⊢
  obtain ⟨W3, hW3⟩ : ∃ W, w2.alloc (.cells #[.int .i64 C, .int .i64 0, .slice ra R.length rc] 28) = W := ⟨_, rfl⟩
  have b3 : Below w2.heap.size w2 W3 := by rw [← hW3]; exact allocBelow _ _
  have z2 := b2.size
  have K3 : FW w L R g c ra rc w2.heap.size C W3 := by
    refine ⟨((A1.below b2).mono z2 |>.below b3).mono b3.size, ((OB.of oR).below b3).mono b3.size, by rw [← hW3]; exact Rf.new _ #[.int .i64 C, .int .i64 0, .slice ra R.length rc] _, by rw [← hW3]; simp, (b1.trans (b2.mono z1)).trans (b3.mono (by omega)), by have := b3.size; omega⟩
  obtain ⟨pr, hpr⟩ : ∃ pr, w2.heap.size = pr := ⟨_, rfl⟩
  rw [hpr] at K3
  have HC : Hid (rsC L p m i = C) := hC
  have HR : Hid (rsL L p m i = R) := hR
  clear A1 oR b1 b2 b3 hC hR z1 z2
  go_wp2_with fail
  refine (implSwapStages _ c L _ K3.lst hsm (by omega)).mono ?_; rintro e w4 ⟨vS, rfl, oS, b4⟩
  obtain ⟨sa, sc, rfl⟩ := shapeK3 oS
  have K4 := K3.below b4
  clear K3 b4 hW3 hpr
  obtain ⟨S, hS⟩ : ∃ S, swL L = S := ⟨_, rfl⟩
  rw [hS] at oS ⊢
  unfold swR
  obtain ⟨X0, hX0⟩ : ∃ X, ixf L = X := ⟨_, rfl⟩
  rw [hX0]
  obtain ⟨W5, hW5⟩ : ∃ W, w4.alloc (.cells #[.int .i64 X0, .int .i64 0, .slice sa S.length sc] 28) = W := ⟨_, rfl⟩
  have b5 : Below w4.heap.size w4 W5 := by rw [← hW5]; exact allocBelow _ _
  have K5 := K4.below b5
  have OS : OB W5.heap.size W5 sa S := ((OB.of oS).below b5).mono b5.size
  have rS : Rf W5 w4.heap.size [.int .i64 X0, .int .i64 0, .slice sa S.length sc] := by rw [← hW5]; exact Rf.new _ #[.int .i64 X0, .int .i64 0, .slice sa S.length sc] _
  have lS : w4.heap.size < W5.heap.size := by rw [← hW5]; simp
  obtain ⟨ps, hps⟩ : ∃ ps, w4.heap.size = ps := ⟨_, rfl⟩
  rw [hps] at rS lS
  have s0 := rS.at_ 0 _ rfl
  have s2 := rS.at_ 2 _ rfl
  clear K4 oS b5 rS
  go_upto_region 6 with fail
  go_cut [57] from 34 to 58 (fun s wx => s = .bool false ∧ Below W5.heap.size W5 wx)
  case first =>
    have BD : Below W5.heap.size W5 W5.drew := (Below.refl _ _).drew
    have d0 : W5.drew.cell? ⟨ps, 0, none⟩ = some (.int .i64 X0) := s0
    have d2 : W5.drew.cell? ⟨ps, 2, none⟩ = some (.slice sa S.length sc) := s2
    have OSD : OB W5.drew.heap.size W5.drew sa S := OS
    have OLD : OB W5.drew.heap.size W5.drew (some ⟨g, 0, none⟩) L := K5.lst
    clear s0 s2 OS K5 hW5 hps hall
    by_cases x0 : X0 = 0
    · have hS1 : S = swK L L.length := by rw [← hS]; unfold swL; rw [if_pos (hX0.trans x0)]
      have hix := sw_ix (hX0.trans x0)
      have hsw := sw_sw (hX0.trans x0)
      have hlen := swK_len L L.length
      have hss : SmallO S := fun o ho => by
        rw [hS1] at ho
        obtain ⟨e, he, rfl⟩ := (sw_all L o).1 ho
        exact hsm e he
      have hS2 : S.length ≤ 5000 := by rw [hS1, hlen]; omega
      have hSw := fun W y => implSwapStages sa sc S W y hss (by omega)
      have e1 : swL S = L := by unfold swL; rw [hS1, if_pos hix, hsw]
      have e2 : swR S = 0 := by unfold swR; rw [hS1, hix]
      rw [e1, e2] at hSw
      subst x0
      have hn0 : ((0 : Int) != 0) = false := by simp
      clear hS hX0 hS1 hix hsw hlen e1 e2
      refine wp_region_held_drew (S := (fun w' => w'.cell? ⟨ps, 0, none⟩ = some (.int .i64 0) ∧ w'.cell? ⟨ps, 2, none⟩ = some (.slice sa S.length sc))) (by kernel_rfl) ⟨d0, d2⟩ (fun hHeld => ?_)
      refine takeD (i := 0) (d := 34) (oi := _) (v := ?_) (listed' := #[true, false, false, false, false, false, false, false, false, false, false, false, false, false, false, false, false, false, false, false, false, false, false, false]) rfl (by kernel_rfl) (by kernel_rfl) (by kernel_rfl) (fun _ _ _ h => h) (Or.inl ⟨by rfl, ?_⟩) hHeld (by kernel_rfl) (by kernel_rfl) ?_
      rotate_left
      · intro w hSw
        try dsimp only at hSw
        first
          | (go_simp; done)
          | (go_simp; with_reducible rfl)
          | (go_simp; simp [hn0])
          | (go_simp; simp)
      simp only [Act.put, List.setIfInBounds_toArray, List.set_cons_zero, List.set_cons_succ]
      refine takeD (i := 1) (d := 35) (oi := _) (v := ?_) (listed' := #[true, true, false, false, false, false, false, false, false, false, false, false, false, false, false, false, false, false, false, false, false, false, false, false]) rfl (by kernel_rfl) (by kernel_rfl) (by kernel_rfl) (fun _ _ _ h => h) (Or.inl ⟨by rfl, ?_⟩) hHeld (by kernel_rfl) (by kernel_rfl) ?_
      rotate_left
      · intro w hSw
        try dsimp only at hSw
        first
          | (go_simp; done)
          | (go_simp; with_reducible rfl)
          | (go_simp; simp [hn0])
          | (go_simp; simp)
      simp only [Act.put, List.setIfInBounds_toArray, List.set_cons_zero, List.set_cons_succ]
      refine takeD (i := 2) (d := 36) (oi := _) (v := .bool true) (listed' := #[true, true, true, false, false, false, false, false, false, false, false, false, false, false, false, false, false, false, false, false, false, false, false, false]) rfl (by kernel_rfl) (by kernel_rfl) (by kernel_rfl) (fun _ _ _ h => h) (Or.inl ⟨by rfl, ?_⟩) hHeld (by kernel_rfl) (by kernel_rfl) ?_
      · intro w hSw
        try dsimp only at hSw
        first
          | (go_simp; done)
          | (go_simp; with_reducible rfl)
          | (go_simp; simp [hn0])
          | (go_simp; simp)
      simp only [Act.put, List.setIfInBounds_toArray, List.set_cons_zero, List.set_cons_succ]
      refine takeD (i := 3) (d := 37) (oi := _) (v := .bool true) (listed' := #[true, true, true, true, false, false, false, false, false, false, false, false, false, false, false, false, false, false, false, false, false, false, false, false]) rfl (by kernel_rfl) (by kernel_rfl) (by kernel_rfl) (fun _ _ _ h => h) (Or.inl ⟨by rfl, ?_⟩) hHeld (by kernel_rfl) (by kernel_rfl) ?_
      · intro w hSw
        try dsimp only at hSw
        first
          | (go_simp; done)
          | (go_simp; with_reducible rfl)
          | (go_simp; simp [hn0])
          | (go_simp; simp)
      simp only [Act.put, List.setIfInBounds_toArray, List.set_cons_zero, List.set_cons_succ]
      refine takeD (i := 4) (d := 38) (oi := _) (v := ?_) (listed' := #[true, true, true, true, true, false, false, false, false, false, false, false, false, false, false, false, false, false, false, false, false, false, false, false]) rfl (by kernel_rfl) (by kernel_rfl) (by kernel_rfl) (fun _ _ _ h => h) (Or.inl ⟨by rfl, ?_⟩) hHeld (by kernel_rfl) (by kernel_rfl) ?_
      rotate_left
      · intro w hSw
        try dsimp only at hSw
        first
          | (go_simp; done)
          | (go_simp; with_reducible rfl)
          | (go_simp; simp [hn0])
          | (go_simp; simp)
      simp only [Act.put, List.setIfInBounds_toArray, List.set_cons_zero, List.set_cons_succ]
      refine takeD (i := 5) (d := 39) (oi := _) (v := ?_) (listed' := #[true, true, true, true, true, true, false, false, false, false, false, false, false, false, false, false, false, false, false, false, false, false, false, false]) rfl (by kernel_rfl) (by kernel_rfl) (by kernel_rfl) (fun _ _ _ h => h) (Or.inl ⟨by rfl, ?_⟩) hHeld (by kernel_rfl) (by kernel_rfl) ?_
      rotate_left
      · intro w hSw
        try dsimp only at hSw
        first
          | (go_simp; done)
          | (go_simp; with_reducible rfl)
          | (go_simp; simp [hn0])
          | (go_simp; simp)
      simp only [Act.put, List.setIfInBounds_toArray, List.set_cons_zero, List.set_cons_succ]
      refine takeD (i := 8) (d := 42) (oi := _) (v := ?_) (listed' := #[true, true, true, true, true, true, false, false, true, false, false, false, false, false, false, false, false, false, false, false, false, false, false, false]) rfl (by kernel_rfl) (by kernel_rfl) (by kernel_rfl) (fun _ _ _ h => h) (Or.inl ⟨by rfl, ?_⟩) hHeld (by kernel_rfl) (by kernel_rfl) ?_
      rotate_left
      · intro w hSw
        try dsimp only at hSw
        first
          | (go_simp; done)
          | (go_simp; with_reducible rfl)
          | (go_simp; simp [hn0])
          | (go_simp; simp)
      simp only [Act.put, List.setIfInBounds_toArray, List.set_cons_zero, List.set_cons_succ]
      refine wpAnyH_ready (rs := [6]) (by kernel_rfl) (by simp) ?_
      refine AllReadyH.cons (o := _) rfl (fun K' hK' => ?_) AllReadyH.nil
      go_simp
      refine (hSw _ OSD).mono ?_
      rintro e wa ⟨va, rfl, oa, ba⟩
      obtain ⟨xa, xc, rfl⟩ := shapeK3 oa
      have hfd : ∀ w', (Instr.field 28 (.agg #[.int .i64 0, .int .i64 0, .slice xa L.length xc]) 2).run Tryd.prog w' = .ok (.slice xa L.length xc) w' := (fun w' => by kernel_rfl)
      have Ba := BD.trans (ba.mono BD.size)
      have q0 := zS ba d0
      have q2 := zS ba d2
      have OLA : OB wa.heap.size wa (some ⟨g, 0, none⟩) L := (OLD.below ba).mono ba.size
      refine hK'.out _ _ ⟨q0, q2⟩ (fun hS4 => ?_)
      clear hK' K'
      simp only [List.setIfInBounds_toArray, List.set_cons_zero, List.set_cons_succ]
      refine takeD (i := 7) (d := 41) (oi := _) (v := .slice xa L.length xc) (listed' := #[true, true, true, true, true, true, true, true, true, false, false, false, false, false, false, false, false, false, false, false, false, false, false, false]) rfl (by kernel_rfl) (by kernel_rfl) (by kernel_rfl) (fun _ _ _ h => h) (Or.inl ⟨by rfl, ?_⟩) hS4 (by kernel_rfl) (by kernel_rfl) ?_
      · intro w hSw
        try dsimp only at hSw
        first
          | (go_simp; done)
          | (go_simp; with_reducible rfl)
          | (go_simp; simp [hn0])
          | (go_simp; simp)
      simp only [Act.put, List.setIfInBounds_toArray, List.set_cons_zero, List.set_cons_succ]
      refine wpAnyH_ready (rs := [9]) (by kernel_rfl) (by simp) ?_
      refine AllReadyH.cons (o := _) rfl (fun K' hK' => ?_) AllReadyH.nil
      go_simp
      refine (lwEntriesC _ _ _ _ L _ (OB.of oa) OLA (by omega)).mono ?_
      rintro e wb ⟨rfl, nb, hwb⟩
      have bb : Below wa.heap.size wa wb := (by rw [hwb]; exact below_drewN' (Below.refl _ _) _)
      have Bb := Ba.trans (bb.mono Ba.size)
      have r0 := zS bb q0
      have r2 := zS bb q2
      clear hwb
      refine hK'.out _ _ ⟨r0, r2⟩ (fun hS5 => ?_)
      clear hK' K'
      simp only [List.setIfInBounds_toArray, List.set_cons_zero, List.set_cons_succ]
      refine takeD (i := 10) (d := 44) (oi := _) (v := .bool false) (listed' := #[true, true, true, true, true, true, true, true, true, true, true, false, false, false, false, false, false, false, false, false, false, false, false, false]) rfl (by kernel_rfl) (by kernel_rfl) (by kernel_rfl) (fun _ _ _ h => h) (Or.inl ⟨by rfl, ?_⟩) hS5 (by kernel_rfl) (by kernel_rfl) ?_
      · intro w hSw
        try dsimp only at hSw
        first
          | (go_simp; done)
          | (go_simp; with_reducible rfl)
          | (go_simp; simp [hn0])
          | (go_simp; simp)
      simp only [Act.put, List.setIfInBounds_toArray, List.set_cons_zero, List.set_cons_succ]
      refine takeD (i := 11) (d := 45) (oi := _) (v := .bool false) (listed' := #[true, true, true, true, true, true, true, true, true, true, true, true, false, false, false, false, false, false, false, false, false, false, false, false]) rfl (by kernel_rfl) (by kernel_rfl) (by kernel_rfl) (fun _ _ _ h => h) (Or.inl ⟨by rfl, ?_⟩) hS5 (by kernel_rfl) (by kernel_rfl) ?_
      · intro w hSw
        try dsimp only at hSw
        first
          | (go_simp; done)
          | (go_simp; with_reducible rfl)
          | (go_simp; simp [hn0])
          | (go_simp; simp)
      simp only [Act.put, List.setIfInBounds_toArray, List.set_cons_zero, List.set_cons_succ]
      refine takeD (i := 12) (d := 46) (oi := _) (v := .bool false) (listed' := #[true, true, true, true, true, true, true, true, true, true, true, true, true, false, false, false, false, false, false, false, false, false, false, false]) rfl (by kernel_rfl) (by kernel_rfl) (by kernel_rfl) (fun _ _ _ h => h) (Or.inl ⟨by rfl, ?_⟩) hS5 (by kernel_rfl) (by kernel_rfl) ?_
      · intro w hSw
        try dsimp only at hSw
        first
          | (go_simp; done)
          | (go_simp; with_reducible rfl)
          | (go_simp; simp [hn0])
          | (go_simp; simp)
      simp only [Act.put, List.setIfInBounds_toArray, List.set_cons_zero, List.set_cons_succ]
      refine takeD (i := 13) (d := 47) (oi := _) (v := ?_) (listed' := #[true, true, true, true, true, true, true, true, true, true, true, true, true, true, false, false, false, false, false, false, false, false, false, false]) rfl (by kernel_rfl) (by kernel_rfl) (by kernel_rfl) (fun _ _ _ h => h) (Or.inl ⟨by rfl, ?_⟩) hS5 (by kernel_rfl) (by kernel_rfl) ?_
      rotate_left
      · intro w hSw
        try dsimp only at hSw
        first
          | (go_simp; done)
          | (go_simp; with_reducible rfl)
          | (go_simp; simp [hn0])
          | (go_simp; simp)
      simp only [Act.put, List.setIfInBounds_toArray, List.set_cons_zero, List.set_cons_succ]
      refine takeD (i := 14) (d := 48) (oi := _) (v := ?_) (listed' := #[true, true, true, true, true, true, true, true, true, true, true, true, true, true, true, false, false, false, false, false, false, false, false, false]) rfl (by kernel_rfl) (by kernel_rfl) (by kernel_rfl) (fun _ _ _ h => h) (Or.inl ⟨by rfl, ?_⟩) hS5 (by kernel_rfl) (by kernel_rfl) ?_
      rotate_left
      · intro w hSw
        try dsimp only at hSw
        first
          | (go_simp; done)
          | (go_simp; with_reducible rfl)
          | (go_simp; simp [hn0])
          | (go_simp; simp)
      simp only [Act.put, List.setIfInBounds_toArray, List.set_cons_zero, List.set_cons_succ]
      refine takeD (i := 15) (d := 49) (oi := _) (v := .bool false) (listed' := #[true, true, true, true, true, true, true, true, true, true, true, true, true, true, true, true, false, false, false, false, false, false, false, false]) rfl (by kernel_rfl) (by kernel_rfl) (by kernel_rfl) (fun _ _ _ h => h) (Or.inl ⟨by rfl, ?_⟩) hS5 (by kernel_rfl) (by kernel_rfl) ?_
      · intro w hSw
        try dsimp only at hSw
        first
          | (go_simp; done)
          | (go_simp; with_reducible rfl)
          | (go_simp; simp [hn0])
          | (go_simp; simp)
      simp only [Act.put, List.setIfInBounds_toArray, List.set_cons_zero, List.set_cons_succ]
      refine takeD (i := 16) (d := 50) (oi := _) (v := .bool false) (listed' := #[true, true, true, true, true, true, true, true, true, true, true, true, true, true, true, true, true, false, false, false, false, false, false, false]) rfl (by kernel_rfl) (by kernel_rfl) (by kernel_rfl) (fun _ _ _ h => h) (Or.inl ⟨by rfl, ?_⟩) hS5 (by kernel_rfl) (by kernel_rfl) ?_
      · intro w hSw
        try dsimp only at hSw
        first
          | (go_simp; done)
          | (go_simp; with_reducible rfl)
          | (go_simp; simp [hn0])
          | (go_simp; simp)
      simp only [Act.put, List.setIfInBounds_toArray, List.set_cons_zero, List.set_cons_succ]
      refine takeD (i := 17) (d := 51) (oi := _) (v := undef) (listed' := #[true, true, true, true, true, true, true, true, true, true, true, true, true, true, true, true, true, true, false, false, false, false, false, false]) rfl (by kernel_rfl) (by kernel_rfl) (by kernel_rfl) (fun _ _ _ h => h) (Or.inr ⟨by rfl, rfl⟩) hS5 (by kernel_rfl) (by kernel_rfl) ?_
      simp only [Act.put, List.setIfInBounds_toArray, List.set_cons_zero, List.set_cons_succ]
      refine takeD (i := 18) (d := 52) (oi := _) (v := undef) (listed' := #[true, true, true, true, true, true, true, true, true, true, true, true, true, true, true, true, true, true, true, false, false, false, false, false]) rfl (by kernel_rfl) (by kernel_rfl) (by kernel_rfl) (fun _ _ _ h => h) (Or.inr ⟨by rfl, rfl⟩) hS5 (by kernel_rfl) (by kernel_rfl) ?_
      simp only [Act.put, List.setIfInBounds_toArray, List.set_cons_zero, List.set_cons_succ]
      refine takeD (i := 19) (d := 53) (oi := _) (v := undef) (listed' := #[true, true, true, true, true, true, true, true, true, true, true, true, true, true, true, true, true, true, true, true, false, false, false, false]) rfl (by kernel_rfl) (by kernel_rfl) (by kernel_rfl) (fun _ _ _ h => h) (Or.inr ⟨by rfl, rfl⟩) hS5 (by kernel_rfl) (by kernel_rfl) ?_
      simp only [Act.put, List.setIfInBounds_toArray, List.set_cons_zero, List.set_cons_succ]
      refine takeD (i := 20) (d := 54) (oi := _) (v := undef) (listed' := #[true, true, true, true, true, true, true, true, true, true, true, true, true, true, true, true, true, true, true, true, true, false, false, false]) rfl (by kernel_rfl) (by kernel_rfl) (by kernel_rfl) (fun _ _ _ h => h) (Or.inr ⟨by rfl, rfl⟩) hS5 (by kernel_rfl) (by kernel_rfl) ?_
      simp only [Act.put, List.setIfInBounds_toArray, List.set_cons_zero, List.set_cons_succ]
      refine takeD (i := 21) (d := 55) (oi := _) (v := undef) (listed' := #[true, true, true, true, true, true, true, true, true, true, true, true, true, true, true, true, true, true, true, true, true, true, false, false]) rfl (by kernel_rfl) (by kernel_rfl) (by kernel_rfl) (fun _ _ _ h => h) (Or.inr ⟨by rfl, rfl⟩) hS5 (by kernel_rfl) (by kernel_rfl) ?_
      simp only [Act.put, List.setIfInBounds_toArray, List.set_cons_zero, List.set_cons_succ]
      refine takeD (i := 22) (d := 56) (oi := _) (v := .bool false) (listed' := #[true, true, true, true, true, true, true, true, true, true, true, true, true, true, true, true, true, true, true, true, true, true, true, false]) rfl (by kernel_rfl) (by kernel_rfl) (by kernel_rfl) (fun _ _ _ h => h) (Or.inl ⟨by rfl, ?_⟩) hS5 (by kernel_rfl) (by kernel_rfl) ?_
      · intro w hSw
        try dsimp only at hSw
        first
          | (go_simp; done)
          | (go_simp; with_reducible rfl)
          | (go_simp; simp [hn0])
          | (go_simp; simp)
      simp only [Act.put, List.setIfInBounds_toArray, List.set_cons_zero, List.set_cons_succ]
      refine takeD (i := 23) (d := 57) (oi := _) (v := .bool false) (listed' := #[true, true, true, true, true, true, true, true, true, true, true, true, true, true, true, true, true, true, true, true, true, true, true, true]) rfl (by kernel_rfl) (by kernel_rfl) (by kernel_rfl) (fun _ _ _ h => h) (Or.inl ⟨by rfl, ?_⟩) hS5 (by kernel_rfl) (by kernel_rfl) ?_
      · intro w hSw
        try dsimp only at hSw
        first
          | (go_simp; done)
          | (go_simp; with_reducible rfl)
          | (go_simp; simp [hn0])
          | (go_simp; simp)
      simp only [Act.put, List.setIfInBounds_toArray, List.set_cons_zero, List.set_cons_succ]
      refine wpAnyH_done (by kernel_rfl) ?_ _
      go_wp2_with fail
      go_meet
      exact ⟨rfl, Bb⟩
    · have q1 : (X0 == 0) = false := by simpa using x0
      have q2' : (X0 != 0) = true := by simpa using x0
      have q3 : (X0 != X0) = false := by simp
      have hIx := fun W y => specIndexFault (some ⟨g, 0, none⟩) c L W y hsm (by omega)
      rw [hX0] at hIx
      clear hS hX0 x0
      refine wp_region_held_drew (S := (fun w' => w'.cell? ⟨ps, 0, none⟩ = some (.int .i64 X0) ∧ w'.cell? ⟨ps, 2, none⟩ = some (.slice sa S.length sc))) (by kernel_rfl) ⟨d0, d2⟩ (fun hHeld => ?_)
      refine takeD (i := 0) (d := 34) (oi := _) (v := ?_) (listed' := #[true, false, false, false, false, false, false, false, false, false, false, false, false, false, false, false, false, false, false, false, false, false, false, false]) rfl (by kernel_rfl) (by kernel_rfl) (by kernel_rfl) (fun _ _ _ h => h) (Or.inl ⟨by rfl, ?_⟩) hHeld (by kernel_rfl) (by kernel_rfl) ?_
      rotate_left
      · intro w hSw
        try dsimp only at hSw
        first
          | (go_simp; done)
          | (go_simp; with_reducible rfl)
          | (go_simp; simp [q1, q2', q3])
          | (go_simp; simp)
      simp only [Act.put, List.setIfInBounds_toArray, List.set_cons_zero, List.set_cons_succ]
      refine takeD (i := 1) (d := 35) (oi := _) (v := ?_) (listed' := #[true, true, false, false, false, false, false, false, false, false, false, false, false, false, false, false, false, false, false, false, false, false, false, false]) rfl (by kernel_rfl) (by kernel_rfl) (by kernel_rfl) (fun _ _ _ h => h) (Or.inl ⟨by rfl, ?_⟩) hHeld (by kernel_rfl) (by kernel_rfl) ?_
      rotate_left
      · intro w hSw
        try dsimp only at hSw
        first
          | (go_simp; done)
          | (go_simp; with_reducible rfl)
          | (go_simp; simp [q1, q2', q3])
          | (go_simp; simp)
      simp only [Act.put, List.setIfInBounds_toArray, List.set_cons_zero, List.set_cons_succ]
      refine takeD (i := 2) (d := 36) (oi := _) (v := .bool false) (listed' := #[true, true, true, false, false, false, false, false, false, false, false, false, false, false, false, false, false, false, false, false, false, false, false, false]) rfl (by kernel_rfl) (by kernel_rfl) (by kernel_rfl) (fun _ _ _ h => h) (Or.inl ⟨by rfl, ?_⟩) hHeld (by kernel_rfl) (by kernel_rfl) ?_
      · intro w hSw
        try dsimp only at hSw
        first
          | (go_simp; done)
          | (go_simp; with_reducible rfl)
          | (go_simp; simp [q1, q2', q3])
          | (go_simp; simp)
      simp only [Act.put, List.setIfInBounds_toArray, List.set_cons_zero, List.set_cons_succ]
      refine takeD (i := 3) (d := 37) (oi := _) (v := .bool false) (listed' := #[true, true, true, true, false, false, false, false, false, false, false, false, false, false, false, false, false, false, false, false, false, false, false, false]) rfl (by kernel_rfl) (by kernel_rfl) (by kernel_rfl) (fun _ _ _ h => h) (Or.inl ⟨by rfl, ?_⟩) hHeld (by kernel_rfl) (by kernel_rfl) ?_
      · intro w hSw
        try dsimp only at hSw
        first
          | (go_simp; done)
          | (go_simp; with_reducible rfl)
          | (go_simp; simp [q1, q2', q3])
          | (go_simp; simp)
      simp only [Act.put, List.setIfInBounds_toArray, List.set_cons_zero, List.set_cons_succ]
      refine takeD (i := 4) (d := 38) (oi := _) (v := undef) (listed' := #[true, true, true, true, true, false, false, false, false, false, false, false, false, false, false, false, false, false, false, false, false, false, false, false]) rfl (by kernel_rfl) (by kernel_rfl) (by kernel_rfl) (fun _ _ _ h => h) (Or.inr ⟨by rfl, rfl⟩) hHeld (by kernel_rfl) (by kernel_rfl) ?_
      simp only [Act.put, List.setIfInBounds_toArray, List.set_cons_zero, List.set_cons_succ]
      refine takeD (i := 5) (d := 39) (oi := _) (v := undef) (listed' := #[true, true, true, true, true, true, false, false, false, false, false, false, false, false, false, false, false, false, false, false, false, false, false, false]) rfl (by kernel_rfl) (by kernel_rfl) (by kernel_rfl) (fun _ _ _ h => h) (Or.inr ⟨by rfl, rfl⟩) hHeld (by kernel_rfl) (by kernel_rfl) ?_
      simp only [Act.put, List.setIfInBounds_toArray, List.set_cons_zero, List.set_cons_succ]
      refine takeD (i := 6) (d := 40) (oi := _) (v := undef) (listed' := #[true, true, true, true, true, true, true, false, false, false, false, false, false, false, false, false, false, false, false, false, false, false, false, false]) rfl (by kernel_rfl) (by kernel_rfl) (by kernel_rfl) (fun _ _ _ h => h) (Or.inr ⟨by rfl, rfl⟩) hHeld (by kernel_rfl) (by kernel_rfl) ?_
      simp only [Act.put, List.setIfInBounds_toArray, List.set_cons_zero, List.set_cons_succ]
      refine takeD (i := 7) (d := 41) (oi := _) (v := undef) (listed' := #[true, true, true, true, true, true, true, true, false, false, false, false, false, false, false, false, false, false, false, false, false, false, false, false]) rfl (by kernel_rfl) (by kernel_rfl) (by kernel_rfl) (fun _ _ _ h => h) (Or.inr ⟨by rfl, rfl⟩) hHeld (by kernel_rfl) (by kernel_rfl) ?_
      simp only [Act.put, List.setIfInBounds_toArray, List.set_cons_zero, List.set_cons_succ]
      refine takeD (i := 8) (d := 42) (oi := _) (v := undef) (listed' := #[true, true, true, true, true, true, true, true, true, false, false, false, false, false, false, false, false, false, false, false, false, false, false, false]) rfl (by kernel_rfl) (by kernel_rfl) (by kernel_rfl) (fun _ _ _ h => h) (Or.inr ⟨by rfl, rfl⟩) hHeld (by kernel_rfl) (by kernel_rfl) ?_
      simp only [Act.put, List.setIfInBounds_toArray, List.set_cons_zero, List.set_cons_succ]
      refine takeD (i := 9) (d := 43) (oi := _) (v := undef) (listed' := #[true, true, true, true, true, true, true, true, true, true, false, false, false, false, false, false, false, false, false, false, false, false, false, false]) rfl (by kernel_rfl) (by kernel_rfl) (by kernel_rfl) (fun _ _ _ h => h) (Or.inr ⟨by rfl, rfl⟩) hHeld (by kernel_rfl) (by kernel_rfl) ?_
      simp only [Act.put, List.setIfInBounds_toArray, List.set_cons_zero, List.set_cons_succ]
      refine takeD (i := 10) (d := 44) (oi := _) (v := undef) (listed' := #[true, true, true, true, true, true, true, true, true, true, true, false, false, false, false, false, false, false, false, false, false, false, false, false]) rfl (by kernel_rfl) (by kernel_rfl) (by kernel_rfl) (fun _ _ _ h => h) (Or.inr ⟨by rfl, rfl⟩) hHeld (by kernel_rfl) (by kernel_rfl) ?_
      simp only [Act.put, List.setIfInBounds_toArray, List.set_cons_zero, List.set_cons_succ]
      refine takeD (i := 11) (d := 45) (oi := _) (v := .bool false) (listed' := #[true, true, true, true, true, true, true, true, true, true, true, true, false, false, false, false, false, false, false, false, false, false, false, false]) rfl (by kernel_rfl) (by kernel_rfl) (by kernel_rfl) (fun _ _ _ h => h) (Or.inl ⟨by rfl, ?_⟩) hHeld (by kernel_rfl) (by kernel_rfl) ?_
      · intro w hSw
        try dsimp only at hSw
        first
          | (go_simp; done)
          | (go_simp; with_reducible rfl)
          | (go_simp; simp [q1, q2', q3])
          | (go_simp; simp)
      simp only [Act.put, List.setIfInBounds_toArray, List.set_cons_zero, List.set_cons_succ]
      refine takeD (i := 12) (d := 46) (oi := _) (v := .bool false) (listed' := #[true, true, true, true, true, true, true, true, true, true, true, true, true, false, false, false, false, false, false, false, false, false, false, false]) rfl (by kernel_rfl) (by kernel_rfl) (by kernel_rfl) (fun _ _ _ h => h) (Or.inl ⟨by rfl, ?_⟩) hHeld (by kernel_rfl) (by kernel_rfl) ?_
      · intro w hSw
        try dsimp only at hSw
        first
          | (go_simp; done)
          | (go_simp; with_reducible rfl)
          | (go_simp; simp [q1, q2', q3])
          | (go_simp; simp)
      simp only [Act.put, List.setIfInBounds_toArray, List.set_cons_zero, List.set_cons_succ]
      refine takeD (i := 13) (d := 47) (oi := _) (v := ?_) (listed' := #[true, true, true, true, true, true, true, true, true, true, true, true, true, true, false, false, false, false, false, false, false, false, false, false]) rfl (by kernel_rfl) (by kernel_rfl) (by kernel_rfl) (fun _ _ _ h => h) (Or.inl ⟨by rfl, ?_⟩) hHeld (by kernel_rfl) (by kernel_rfl) ?_
      rotate_left
      · intro w hSw
        try dsimp only at hSw
        first
          | (go_simp; done)
          | (go_simp; with_reducible rfl)
          | (go_simp; simp [q1, q2', q3])
          | (go_simp; simp)
      simp only [Act.put, List.setIfInBounds_toArray, List.set_cons_zero, List.set_cons_succ]
      refine takeD (i := 14) (d := 48) (oi := _) (v := ?_) (listed' := #[true, true, true, true, true, true, true, true, true, true, true, true, true, true, true, false, false, false, false, false, false, false, false, false]) rfl (by kernel_rfl) (by kernel_rfl) (by kernel_rfl) (fun _ _ _ h => h) (Or.inl ⟨by rfl, ?_⟩) hHeld (by kernel_rfl) (by kernel_rfl) ?_
      rotate_left
      · intro w hSw
        try dsimp only at hSw
        first
          | (go_simp; done)
          | (go_simp; with_reducible rfl)
          | (go_simp; simp [q1, q2', q3])
          | (go_simp; simp)
      simp only [Act.put, List.setIfInBounds_toArray, List.set_cons_zero, List.set_cons_succ]
      refine takeD (i := 15) (d := 49) (oi := _) (v := .bool true) (listed' := #[true, true, true, true, true, true, true, true, true, true, true, true, true, true, true, true, false, false, false, false, false, false, false, false]) rfl (by kernel_rfl) (by kernel_rfl) (by kernel_rfl) (fun _ _ _ h => h) (Or.inl ⟨by rfl, ?_⟩) hHeld (by kernel_rfl) (by kernel_rfl) ?_
      · intro w hSw
        try dsimp only at hSw
        first
          | (go_simp; done)
          | (go_simp; with_reducible rfl)
          | (go_simp; simp [q1, q2', q3])
          | (go_simp; simp)
      simp only [Act.put, List.setIfInBounds_toArray, List.set_cons_zero, List.set_cons_succ]
      refine takeD (i := 16) (d := 50) (oi := _) (v := .bool true) (listed' := #[true, true, true, true, true, true, true, true, true, true, true, true, true, true, true, true, true, false, false, false, false, false, false, false]) rfl (by kernel_rfl) (by kernel_rfl) (by kernel_rfl) (fun _ _ _ h => h) (Or.inl ⟨by rfl, ?_⟩) hHeld (by kernel_rfl) (by kernel_rfl) ?_
      · intro w hSw
        try dsimp only at hSw
        first
          | (go_simp; done)
          | (go_simp; with_reducible rfl)
          | (go_simp; simp [q1, q2', q3])
          | (go_simp; simp)
      simp only [Act.put, List.setIfInBounds_toArray, List.set_cons_zero, List.set_cons_succ]
      refine takeD (i := 17) (d := 51) (oi := _) (v := ?_) (listed' := #[true, true, true, true, true, true, true, true, true, true, true, true, true, true, true, true, true, true, false, false, false, false, false, false]) rfl (by kernel_rfl) (by kernel_rfl) (by kernel_rfl) (fun _ _ _ h => h) (Or.inl ⟨by rfl, ?_⟩) hHeld (by kernel_rfl) (by kernel_rfl) ?_
      rotate_left
      · intro w hSw
        try dsimp only at hSw
        first
          | (go_simp; done)
          | (go_simp; with_reducible rfl)
          | (go_simp; simp [q1, q2', q3])
          | (go_simp; simp)
      simp only [Act.put, List.setIfInBounds_toArray, List.set_cons_zero, List.set_cons_succ]
      refine takeD (i := 19) (d := 53) (oi := _) (v := ?_) (listed' := #[true, true, true, true, true, true, true, true, true, true, true, true, true, true, true, true, true, true, false, true, false, false, false, false]) rfl (by kernel_rfl) (by kernel_rfl) (by kernel_rfl) (fun _ _ _ h => h) (Or.inl ⟨by rfl, ?_⟩) hHeld (by kernel_rfl) (by kernel_rfl) ?_
      rotate_left
      · intro w hSw
        try dsimp only at hSw
        first
          | (go_simp; done)
          | (go_simp; with_reducible rfl)
          | (go_simp; simp [q1, q2', q3])
          | (go_simp; simp)
      simp only [Act.put, List.setIfInBounds_toArray, List.set_cons_zero, List.set_cons_succ]
      refine takeD (i := 20) (d := 54) (oi := _) (v := ?_) (listed' := #[true, true, true, true, true, true, true, true, true, true, true, true, true, true, true, true, true, true, false, true, true, false, false, false]) rfl (by kernel_rfl) (by kernel_rfl) (by kernel_rfl) (fun _ _ _ h => h) (Or.inl ⟨by rfl, ?_⟩) hHeld (by kernel_rfl) (by kernel_rfl) ?_
      rotate_left
      · intro w hSw
        try dsimp only at hSw
        first
          | (go_simp; done)
          | (go_simp; with_reducible rfl)
          | (go_simp; simp [q1, q2', q3])
          | (go_simp; simp)
      simp only [Act.put, List.setIfInBounds_toArray, List.set_cons_zero, List.set_cons_succ]
      refine wpAnyH_ready (rs := [18]) (by kernel_rfl) (by simp) ?_
      refine AllReadyH.cons (o := _) rfl (fun K' hK' => ?_) AllReadyH.nil
      go_simp
      refine (hIx _ OLD).mono ?_
      rintro e wa ⟨rfl, ba⟩
      have Ba := BD.trans (ba.mono BD.size)
      have q0 := zS ba d0
      have q2 := zS ba d2
      refine hK'.out _ _ ⟨q0, q2⟩ (fun hS4 => ?_)
      clear hK' K'
      simp only [List.setIfInBounds_toArray, List.set_cons_zero, List.set_cons_succ]
      refine takeD (i := 21) (d := 55) (oi := _) (v := .bool false) (listed' := #[true, true, true, true, true, true, true, true, true, true, true, true, true, true, true, true, true, true, true, true, true, true, false, false]) rfl (by kernel_rfl) (by kernel_rfl) (by kernel_rfl) (fun _ _ _ h => h) (Or.inl ⟨by rfl, ?_⟩) hS4 (by kernel_rfl) (by kernel_rfl) ?_
      · intro w hSw
        try dsimp only at hSw
        first
          | (go_simp; done)
          | (go_simp; with_reducible rfl)
          | (go_simp; simp [q1, q2', q3])
          | (go_simp; simp)
      simp only [Act.put, List.setIfInBounds_toArray, List.set_cons_zero, List.set_cons_succ]
      refine takeD (i := 22) (d := 56) (oi := _) (v := .bool false) (listed' := #[true, true, true, true, true, true, true, true, true, true, true, true, true, true, true, true, true, true, true, true, true, true, true, false]) rfl (by kernel_rfl) (by kernel_rfl) (by kernel_rfl) (fun _ _ _ h => h) (Or.inl ⟨by rfl, ?_⟩) hS4 (by kernel_rfl) (by kernel_rfl) ?_
      · intro w hSw
        try dsimp only at hSw
        first
          | (go_simp; done)
          | (go_simp; with_reducible rfl)
          | (go_simp; simp [q1, q2', q3])
          | (go_simp; simp)
      simp only [Act.put, List.setIfInBounds_toArray, List.set_cons_zero, List.set_cons_succ]
      refine takeD (i := 23) (d := 57) (oi := _) (v := .bool false) (listed' := #[true, true, true, true, true, true, true, true, true, true, true, true, true, true, true, true, true, true, true, true, true, true, true, true]) rfl (by kernel_rfl) (by kernel_rfl) (by kernel_rfl) (fun _ _ _ h => h) (Or.inl ⟨by rfl, ?_⟩) hS4 (by kernel_rfl) (by kernel_rfl) ?_
      · intro w hSw
        try dsimp only at hSw
        first
          | (go_simp; done)
          | (go_simp; with_reducible rfl)
          | (go_simp; simp [q1, q2', q3])
          | (go_simp; simp)
      simp only [Act.put, List.setIfInBounds_toArray, List.set_cons_zero, List.set_cons_succ]
      refine wpAnyH_done (by kernel_rfl) ?_ _
      go_wp2_with fail
      go_meet
      exact ⟨rfl, Ba⟩
  case rest =>
  obtain ⟨rfl, b6⟩ := hcut
  obtain ⟨w6, hw6⟩ : ∃ w6, wc = w6 := ⟨_, rfl⟩
  rw [hw6] at b6 ⊢
  clear hw6
  have K6 := K5.below b6
  clear K5 b6 OS s0 s2 hW5 hps hS lS hX0
  have v0 := K6.var.at_ 0 _ rfl
  have v2 := K6.var.at_ 2 _ rfl
  by_cases c0 : C = 0
  rotate_left
  · have q1 : (C != 0) = true := by simpa using c0
    have q2 : (C == C) = true := by simp
    have hSp := fun W y => specResolvePath (some ⟨g, 0, none⟩) c L p m i W y hsm (by omega) (by omega) (by omega)
    rw [HC.out, HR.out] at hSp
    have BD : Below w6.heap.size w6 w6.drew := (Below.refl _ _).drew
    have d0 : w6.drew.cell? ⟨pr, 0, none⟩ = some (.int .i64 C) := v0
    have OLD : OB w6.drew.heap.size w6.drew (some ⟨g, 0, none⟩) L := K6.lst
    have hle := K6.le
    have hB := K6.bel
    clear v2 K6 hall c0
    go_wp2_with fail
    go_region_held (fun w' => w'.cell? ⟨pr, 0, none⟩ = some (.int .i64 C)) (first | with_reducible exact d0 | with_reducible exact q0 | exact d0)
      ((go_at_call 10; refine (hSp _ OLD).mono ?_; rintro e wa ⟨va, rfl, oa, ba⟩; obtain ⟨xa, xc, rfl⟩ := shapeK3 oa; have hfd : ∀ w', (Instr.field 28 (.agg #[.int .i64 C, .int .i64 0, .slice xa R.length xc]) 0).run Tryd.prog w' = .ok (.int .i64 C) w' := (fun w' => by kernel_rfl); have Ba := BD.trans (ba.mono BD.size); have q0 := zS ba d0))
    all_goals
      have HB : Hid (Below w.heap.size w wa) := hB.trans (Ba.mono hle)
      clear oa ba Ba BD hB
      go_wp2_with fail
      go_ret
      exact ⟨rfl, HB.out⟩
  subst c0
  obtain ⟨hix, hRU, hixR, hnp, hone, hstay⟩ := hall rfl
  rw [hRU] at K6 v2
  clear hall HC HR hRU
  obtain ⟨R, hR⟩ : ∃ R, rsU L p m i = R := ⟨_, rfl⟩
  rw [hR] at K6 v2 hixR hnp hone hstay
  have hRl := (ixf_zero hixR).1
  have hRs : SmallO R := fun o hmem => by
    rw [← hR] at hmem
    rcases rsU_mem.1 hmem with ⟨q, _⟩ | ⟨_, rfl⟩
    · exact hsm o q
    · exact ⟨by show p.size ≤ _; omega, by show i.size ≤ _; omega⟩
  have HST : Hid (∀ s, (stg L s).filter (offF p) = (stg R s).filter (offF p)) := hstay
  clear hR hstay
  have hCw := fun W y => implClashesIn (some ⟨g, 0, none⟩) c L W y hsm (by omega)
  have hCn := fun W y => implClashesIn ra rc R W y hRs (by omega)
  have e1 : clL L = cl L := if_pos hix
  have e2 : clL R = cl R := if_pos hixR
  rw [e1, show clR L = 0 from hix] at hCw
  rw [e2, show clR R = 0 from hixR] at hCn
  have hpn := nb_of hnp
  obtain ⟨M, hM⟩ : ∃ M, cl L = M := ⟨_, rfl⟩
  obtain ⟨N, hN⟩ : ∃ N, cl R = N := ⟨_, rfl⟩
  have hM5 : M.length ≤ 5000 := by rw [← hM]; have := cl_len L L.length; rw [List.take_length] at this; omega
  have hNs : ∀ k, k < N.length → (N.getD k ByteArray.empty).size ≤ 9223372036854775807 := fun k hk => by
    have hmem : N.getD k ByteArray.empty ∈ N := by rw [getD_at N k hk]; exact List.getElem_mem hk
    rw [← hN] at hmem
    obtain ⟨e, he, _, q⟩ := has_cl.1 (hasB_mem.2 hmem)
    have h9 := (hRs e he).1
    rw [q] at h9
    rw [← hN]; omega
  rw [hM] at hCw hone
  rw [hN] at hCn hone hpn
  clear e1 e2 hM hN hnp
  unfold LP at hCw hCn
  go_wp2_with fail
  refine (hCw _ K6.lst).mono ?_; rintro e w7 ⟨vw, rfl, ow, b7⟩
  obtain ⟨wa, wcap, rfl⟩ := shapeK3 ow
  have hfd : ∀ w', (Instr.field 35 (.agg #[.int .i64 0, .slice wa M.length wcap]) 1).run Tryd.prog w' = .ok (.slice wa M.length wcap) w' := fun w' => by kernel_rfl
  have K7 := K6.below b7
  clear K6 b7 hCw v2 v0 ow
  have v2 := K7.var.at_ 2 _ rfl
  go_wp2_with fail
  refine (hCn _ K7.res).mono ?_; rintro e w8 ⟨vn, rfl, on, b8⟩
  obtain ⟨na, ncap, rfl⟩ := shapeK3 on
  clear hfd
  have hfd : ∀ w', (Instr.field 35 (.agg #[.int .i64 0, .slice na N.length ncap]) 1).run Tryd.prog w' = .ok (.slice na N.length ncap) w' := fun w' => by kernel_rfl
  have K8 := K7.below b8
  clear K7 b8 hCn v2
  have v2 := K8.var.at_ 2 _ rfl
  have hIf := implIndexFault ra rc R w8 K8.res hRs (by omega)
  rw [hixR] at hIf
  go_wp2_with fail
  refine hIf.mono ?_; rintro e w9 ⟨rfl, b9⟩
  have K9 := K8.below b9
  have on9 := on.kept (grownOfBelow b9 none) (blockCases _ _ fun b c1 c2 => by cases c2)
  clear K8 b9 hIf v2 on hfd
  have hHa := lwHasNo na ncap N p w9 (ownSS on9 hNs) (by omega) hpn
  go_wp2_with fail
  refine hHa.mono ?_; rintro e w10 ⟨rfl, nh, hw10⟩
  have K10 : FW w L R g c ra rc pr 0 w10 := by rw [hw10]; exact K9.drewN nh
  have hwr : IntKind.i64.wrap ((M.length : Int) - 1) = (N.length : Int) := by rw [IntKind.wrap_i64]; omega
  have hNN : ((N.length : Int) != (N.length : Int)) = false := by simp
  have hMN : (M.length : Int) - 1 = (N.length : Int) := by omega
  have HK : Hid (FW w L R g c ra rc pr 0 w10) := K10
  clear K9 K10 hHa on9 hpn hNs hw10 hone
  go_wp2_with fail
  clear hwr hNN hMN
  go_loopw [11, 12, 13, 14, 15, 16, 17] (fun s11 _ _ _ _ _ _ wr => ∃ k : Nat, k ≤ 4 ∧ s11 = .int .i64 k ∧ FW w L R g c ra rc pr 0 wr) (fun s _ _ _ _ _ _ _ => 4 - (intOf s).toNat)
  case atStart => exact ⟨0, by omega, rfl, HK.out⟩
  case round =>
    obtain ⟨k, hk, rfl, K⟩ := hrel
    clear HK
    obtain ⟨V, hV⟩ : ∃ V, wr = V := ⟨_, rfl⟩
    rw [hV] at K ⊢
    clear hV
    by_cases hlt : k < 4
    · have qk : (k : Int) < 4 := by omega
      have hin : inB (k : Int) 0 3 = true := decide_eq_true (by omega)
      have sL : sgR L (k : Int) = 0 := by unfold sgR; rw [if_pos hix, if_pos hin]
      have sR : sgR R (k : Int) = 0 := by unfold sgR; rw [if_pos hixR, if_pos hin]
      have hSL := fun W y => implStageFiles (some ⟨g, 0, none⟩) c L (k : Int) W y hsm (by omega)
      have hSR := fun W y => implStageFiles ra rc R (k : Int) W y hRs (by omega)
      rw [sL, show sgL L (k : Int) = stg L (k : Int) from if_pos sL] at hSL
      rw [sR, show sgL R (k : Int) = stg R (k : Int) from if_pos sR] at hSR
      have hXY := HST.out (k : Int)
      have lX := stg_len L (k : Int)
      have lY := stg_len R (k : Int)
      obtain ⟨X, hX⟩ : ∃ X, stg L (k : Int) = X := ⟨_, rfl⟩
      obtain ⟨Y, hY⟩ : ∃ Y, stg R (k : Int) = Y := ⟨_, rfl⟩
      rw [hX] at hSL hXY lX
      rw [hY] at hSR hXY lY
      have HXY : Hid (X.filter (offF p) = Y.filter (offF p)) := hXY
      have lX' : X.length ≤ 5000 := by omega
      have lY' : Y.length ≤ 5000 := by omega
      clear hX hY sL sR hin hXY lX lY
      unfold FP at hSL hSR
      go_wp2_with fail
      refine (hSL _ K.lst).mono ?_; rintro e u1 ⟨vx, rfl, ox, bx⟩
      obtain ⟨xa, xc, rfl⟩ := shapeK3 ox
      have hfd : ∀ w', (Instr.field 40 (.agg #[.int .i64 0, .slice xa X.length xc]) 1).run Tryd.prog w' = .ok (.slice xa X.length xc) w' := fun w' => by kernel_rfl
      have K1 := K.below bx
      have v2 := K1.var.at_ 2 _ rfl
      clear K bx hSL
      go_wp2_with fail
      refine (hSR _ K1.res).mono ?_; rintro e u2 ⟨vy, rfl, oy, by_⟩
      obtain ⟨ya, yc, rfl⟩ := shapeK3 oy
      have hfd2 : ∀ w', (Instr.field 40 (.agg #[.int .i64 0, .slice ya Y.length yc]) 1).run Tryd.prog w' = .ok (.slice ya Y.length yc) w' := fun w' => by kernel_rfl
      have K2 := K1.below by_
      have XB : Fl.OB u2.heap.size u2 xa X := ((Fl.OB.of ox).below by_).mono by_.size
      have YB : Fl.OB u2.heap.size u2 ya Y := Fl.OB.of oy
      obtain ⟨W9, hW9⟩ : ∃ W, (u2.alloc (.cells #[] 43)).alloc (.cells #[] 43) = W := ⟨_, rfl⟩
      obtain ⟨q9, hq9⟩ : ∃ q, u2.heap.size = q := ⟨_, rfl⟩
      have b9 : Below u2.heap.size u2 W9 := by rw [← hW9]; exact ((Below.refl _ _).alloc (Nat.le_refl _) _).alloc (by simp) _
      have oA : W9.ownsRow q9 43 3 (.slice (some ⟨q9, 0, none⟩) 0 0) ((X.take 0).filter (offF p)).length (Fl.ocells ((X.take 0).filter (offF p))) := by
        rw [← hW9, ← hq9]; exact (litF u2).alloc _
      have oB : W9.ownsRow q9 43 3 (.slice (some ⟨q9 + 1, 0, none⟩) 0 0) ((Y.take 0).filter (offF p)).length (Fl.ocells ((Y.take 0).filter (offF p))) := by
        have q := litF (u2.alloc (.cells #[] 43))
        rw [World.size_alloc, hW9, hq9] at q
        exact ownMonoF q (by omega)
      have K9 := K2.below b9
      have X9 : Fl.OB q9 W9 xa X := by rw [← hq9]; exact XB.below b9
      have Y9 : Fl.OB q9 W9 ya Y := by rw [← hq9]; exact YB.below b9
      have z9 : W9.heap.size = q9 + 2 := by rw [← hW9, ← hq9]; simp
      have Z9 : Hid (W9.heap.size = q9 + 2) := z9
      have hq9w : w.heap.size ≤ q9 := by rw [← hq9]; exact K2.le
      have BQ9 : Below q9 W9 W9 := Below.refl _ _
      have HK2 : Hid (FW w L R g c ra rc pr 0 u2) := K2
      have HB9 : Hid (Below q9 u2 W9) := by show Below _ _ _; rw [← hq9]; exact b9
      have HQ9 : Hid (u2.heap.size = q9) := hq9
      clear K1 K2 by_ b9 ox oy XB YB v2 z9 hSR
      go_wp2
      clear hW9 hq9
      go_loopw [14, 16] (fun s i wr => ∃ (j : Nat), j ≤ X.length ∧ i = .int .i64 j ∧ wr.ownsRow q9 43 3 s ((X.take j).filter (offF p)).length (Fl.ocells ((X.take j).filter (offF p))) ∧ wr.ownsRow q9 43 3 (Value.slice (some ⟨q9 + 1, 0, none⟩) 0 0) ([] : List Fl.Ob).length (Fl.ocells ([] : List Fl.Ob)) ∧ (∀ b, (Value.slice (some ⟨q9 + 1, 0, none⟩) 0 0).ownBlock = some b → s.ownBlock ≠ some b) ∧ Below q9 W9 wr) (fun _ i _ => X.length - (intOf i).toNat)
      case atStart => exact ⟨0, Nat.zero_le _, rfl, oA, oB, fun b hb e => by rw [ownBlock_slice] at hb e; rw [← hb] at e; exact absurd (Option.some.inj e) (by simp), BQ9⟩
      case round =>
        obtain ⟨j, hj, rfl, oS, oO, dO, BW⟩ := hrel
        clear oA oB BQ9
        obtain ⟨V1, hV⟩ : ∃ V, wr = V := ⟨_, rfl⟩
        rw [hV] at oS oO BW ⊢
        clear hV
        have zV : q9 ≤ V1.heap.size := by have := BW.size; have := Z9.out; omega
        obtain ⟨sa, sc, rfl⟩ := shapeK3 oS
        by_cases hjl : j < X.length
        · have qj : (j : Int) < (X.length : Int) := by omega
          obtain ⟨gx, offx, rfl, hgx, d0, d1, d2⟩ := (flBA X9 BW (Nat.le_refl _)) j hjl
          have hyes := off_yes (X := X) (p := p) hjl
          have hno := off_no (X := X) (p := p) hjl
          have hlen := off_len X p j
          obtain ⟨T, hT⟩ : ∃ T, (X.take j).filter (offF p) = T := ⟨_, rfl⟩
          obtain ⟨Cx, hCx⟩ : ∃ Cx, X.getD j Fl.onil = Cx := ⟨_, rfl⟩
          obtain ⟨x0, x1, x2⟩ := Cx
          rw [hCx] at d0 d1 d2 hyes hno
          rw [hT] at oS dO hyes hno hlen ⊢
          simp only [] at d0 d1 d2 hyes hno
          have OO : Hid (V1.ownsRow q9 43 3 (Value.slice (some ⟨q9 + 1, 0, none⟩) 0 0) ([] : List Fl.Ob).length (Fl.ocells ([] : List Fl.Ob))) := oO
          have DO : Hid (∀ b, (Value.slice (some ⟨q9 + 1, 0, none⟩) 0 0).ownBlock = some b → (Value.slice sa T.length sc).ownBlock ≠ some b) := dO
          clear hT hCx dO oO
          by_cases hx : x0 = p
          · have q1 := beq_bytes_true hx
            have q2 : (x0.toList != p.toList) = false := by rw [hx]; simp
            have HN : Hid ((X.take (j + 1)).filter (offF p) = T) := hno hx
            have OS : Hid (V1.ownsRow q9 43 3 (.slice sa T.length sc) T.length (Fl.ocells T)) := oS
            clear hyes hno hx oS
            go_wp2
            go_roundw
            case rel => exact ⟨j + 1, by omega, by go_num, by rw [HN.out]; exact OS.out, OO.out, DO.out, BW⟩
            case measure => simp [intOf]; omega
          · have q1 := beq_bytes_false hx
            have q2 : (x0.toList != p.toList) = true := by simp [bne, q1]
            have HY : Hid ((X.take (j + 1)).filter (offF p) = T ++ [(x0, x1, x2)]) := hyes hx
            have bN := allocBelow V1 (.cells #[.string x0, .int .i64 x1, .string x2] 43)
            have o4 := oS.kept (grownOfBelow bN none) (blockCases _ _ fun b c1 c2 => by cases c2)
            have OO4 : Hid ((V1.alloc (.cells #[.string x0, .int .i64 x1, .string x2] 43)).ownsRow q9 43 3 (Value.slice (some ⟨q9 + 1, 0, none⟩) 0 0) ([] : List Fl.Ob).length (Fl.ocells ([] : List Fl.Ob))) := OO.out.kept (grownOfBelow bN none) (blockCases _ _ fun b c1 c2 => by cases c2)
            have nw := newF V1 (x0, x1, x2)
            have z4 : q9 ≤ (V1.alloc (.cells #[.string x0, .int .i64 x1, .string x2] 43)).heap.size := Nat.le_trans zV bN.size
            have B4 : Below q9 W9 (V1.alloc (.cells #[.string x0, .int .i64 x1, .string x2] 43)) := BW.trans (bN.mono zV)
            clear hyes hno hx bN oS BW OO
            go_wp2_with (at_builtin; refine wpList_appF rfl (.tmp 122) (.tmp 127) rfl q9 (.slice sa T.length sc) _ rfl o4 _ _ [(x0, x1, x2)] rfl nw (by simp; omega) z4 ?_; intro v5 w5 o5 g5 n5 k5)
            have B5 : Below q9 W9 w5 := B4.grown g5 (by have := Z9.out; omega) (fun i hi => (o4.lt i hi).1)
            have O5 : Hid (w5.ownsRow q9 43 3 v5 (T ++ [(x0, x1, x2)]).length (Fl.ocells (T ++ [(x0, x1, x2)]))) := o5
            have OO5 : Hid (w5.ownsRow q9 43 3 (Value.slice (some ⟨q9 + 1, 0, none⟩) 0 0) ([] : List Fl.Ob).length (Fl.ocells ([] : List Fl.Ob))) := OO4.out.kept g5 (blockCases _ _ fun b c1 c2 => DO.out b c1 c2)
            have D5 : Hid (∀ b, (Value.slice (some ⟨q9 + 1, 0, none⟩) 0 0).ownBlock = some b → v5.ownBlock ≠ some b) := fun b hb e => by
              rcases k5 with q | q
              · exact DO.out b hb (q.symm.trans e)
              · rw [q] at e
                have h9 := (OO4.out.lt b hb).2
                rw [← Option.some.inj e] at h9
                omega
            clear o4 nw g5 n5 B4 o5 k5 OO4 DO
            go_wp2
            go_roundw
            case rel => exact ⟨j + 1, by omega, by go_num, by rw [HY.out]; exact O5.out, OO5.out, D5.out, B5⟩
            case measure => simp [intOf]; omega
        · have qj : ¬ (j : Int) < (X.length : Int) := by omega
          have ej : j = X.length := by omega
          rw [ej] at oS dO
          have oA1 := oS
          have oB1 := oO
          have BV1 := BW
          have qj2 : ¬ ((X.length : Int) < (X.length : Int)) := by omega
          rw [ej]
          clear hjl oS oO BW ej hj qj
          go_wp2_with fail
          obtain ⟨sA, hsA⟩ : ∃ x, sa = x := ⟨_, rfl⟩
          obtain ⟨sAc, hsc⟩ : ∃ x, sc = x := ⟨_, rfl⟩
          rw [hsA, hsc] at oA1 dO ⊢
          clear hsA hsc
          have dAB : ∀ b, (Value.slice sA ((X.take X.length).filter (offF p)).length sAc).ownBlock = some b → (Value.slice (some ⟨q9 + 1, 0, none⟩) 0 0).ownBlock ≠ some b := fun b hb e => dO b e hb
          clear dO
          go_loopw [15, 17] (fun s i wr => ∃ (j : Nat), j ≤ Y.length ∧ i = .int .i64 j ∧ wr.ownsRow q9 43 3 s ((Y.take j).filter (offF p)).length (Fl.ocells ((Y.take j).filter (offF p))) ∧ wr.ownsRow q9 43 3 (Value.slice sA ((X.take X.length).filter (offF p)).length sAc) ((X.take X.length).filter (offF p)).length (Fl.ocells ((X.take X.length).filter (offF p))) ∧ (∀ b, (Value.slice sA ((X.take X.length).filter (offF p)).length sAc).ownBlock = some b → s.ownBlock ≠ some b) ∧ Below q9 W9 wr) (fun _ i _ => Y.length - (intOf i).toNat)
          case atStart => exact ⟨0, Nat.zero_le _, rfl, oB1, oA1, dAB, BV1⟩
          case round =>
            obtain ⟨j, hj, rfl, oS, oO, dO, BW⟩ := hrel
            clear oA1 oB1 BV1 dAB
            obtain ⟨V2, hV⟩ : ∃ V, wr = V := ⟨_, rfl⟩
            rw [hV] at oS oO BW ⊢
            clear hV
            have zV : q9 ≤ V2.heap.size := by have := BW.size; have := Z9.out; omega
            obtain ⟨sa, sc, rfl⟩ := shapeK3 oS
            by_cases hjl : j < Y.length
            · have qj : (j : Int) < (Y.length : Int) := by omega
              obtain ⟨gx, offx, rfl, hgx, d0, d1, d2⟩ := (flBA Y9 BW (Nat.le_refl _)) j hjl
              have hyes := off_yes (X := Y) (p := p) hjl
              have hno := off_no (X := Y) (p := p) hjl
              have hlen := off_len Y p j
              obtain ⟨T, hT⟩ : ∃ T, (Y.take j).filter (offF p) = T := ⟨_, rfl⟩
              obtain ⟨Cx, hCx⟩ : ∃ Cx, Y.getD j Fl.onil = Cx := ⟨_, rfl⟩
              obtain ⟨x0, x1, x2⟩ := Cx
              rw [hCx] at d0 d1 d2 hyes hno
              rw [hT] at oS dO hyes hno hlen ⊢
              simp only [] at d0 d1 d2 hyes hno
              have OO : Hid (V2.ownsRow q9 43 3 (Value.slice sA ((X.take X.length).filter (offF p)).length sAc) ((X.take X.length).filter (offF p)).length (Fl.ocells ((X.take X.length).filter (offF p)))) := oO
              have DO : Hid (∀ b, (Value.slice sA ((X.take X.length).filter (offF p)).length sAc).ownBlock = some b → (Value.slice sa T.length sc).ownBlock ≠ some b) := dO
              clear hT hCx dO oO
              by_cases hx : x0 = p
              · have q1 := beq_bytes_true hx
                have q2 : (x0.toList != p.toList) = false := by rw [hx]; simp
                have HN : Hid ((Y.take (j + 1)).filter (offF p) = T) := hno hx
                have OS : Hid (V2.ownsRow q9 43 3 (.slice sa T.length sc) T.length (Fl.ocells T)) := oS
                clear hyes hno hx oS
                go_wp2
                go_roundw
                case rel => exact ⟨j + 1, by omega, by go_num, by rw [HN.out]; exact OS.out, OO.out, DO.out, BW⟩
                case measure => simp [intOf]; omega
              · have q1 := beq_bytes_false hx
                have q2 : (x0.toList != p.toList) = true := by simp [bne, q1]
                have HY : Hid ((Y.take (j + 1)).filter (offF p) = T ++ [(x0, x1, x2)]) := hyes hx
                have bN := allocBelow V2 (.cells #[.string x0, .int .i64 x1, .string x2] 43)
                have o4 := oS.kept (grownOfBelow bN none) (blockCases _ _ fun b c1 c2 => by cases c2)
                have OO4 : Hid ((V2.alloc (.cells #[.string x0, .int .i64 x1, .string x2] 43)).ownsRow q9 43 3 (Value.slice sA ((X.take X.length).filter (offF p)).length sAc) ((X.take X.length).filter (offF p)).length (Fl.ocells ((X.take X.length).filter (offF p)))) := OO.out.kept (grownOfBelow bN none) (blockCases _ _ fun b c1 c2 => by cases c2)
                have nw := newF V2 (x0, x1, x2)
                have z4 : q9 ≤ (V2.alloc (.cells #[.string x0, .int .i64 x1, .string x2] 43)).heap.size := Nat.le_trans zV bN.size
                have B4 : Below q9 W9 (V2.alloc (.cells #[.string x0, .int .i64 x1, .string x2] 43)) := BW.trans (bN.mono zV)
                clear hyes hno hx bN oS BW OO
                go_wp2_with (at_builtin; refine wpList_appF rfl (.tmp 142) (.tmp 147) rfl q9 (.slice sa T.length sc) _ rfl o4 _ _ [(x0, x1, x2)] rfl nw (by simp; omega) z4 ?_; intro v5 w5 o5 g5 n5 k5)
                have B5 : Below q9 W9 w5 := B4.grown g5 (by have := Z9.out; omega) (fun i hi => (o4.lt i hi).1)
                have O5 : Hid (w5.ownsRow q9 43 3 v5 (T ++ [(x0, x1, x2)]).length (Fl.ocells (T ++ [(x0, x1, x2)]))) := o5
                have OO5 : Hid (w5.ownsRow q9 43 3 (Value.slice sA ((X.take X.length).filter (offF p)).length sAc) ((X.take X.length).filter (offF p)).length (Fl.ocells ((X.take X.length).filter (offF p)))) := OO4.out.kept g5 (blockCases _ _ fun b c1 c2 => DO.out b c1 c2)
                have D5 : Hid (∀ b, (Value.slice sA ((X.take X.length).filter (offF p)).length sAc).ownBlock = some b → v5.ownBlock ≠ some b) := fun b hb e => by
                  rcases k5 with q | q
                  · exact DO.out b hb (q.symm.trans e)
                  · rw [q] at e
                    have h9 := (OO4.out.lt b hb).2
                    rw [← Option.some.inj e] at h9
                    omega
                clear o4 nw g5 n5 B4 o5 k5 OO4 DO
                go_wp2
                go_roundw
                case rel => exact ⟨j + 1, by omega, by go_num, by rw [HY.out]; exact O5.out, OO5.out, D5.out, B5⟩
                case measure => simp [intOf]; omega
            · have qj : ¬ (j : Int) < (Y.length : Int) := by omega
              have ej : j = Y.length := by omega
              rw [ej] at oS dO
              have oB2 := oS
              have oA2 := oO
              have BV2 := BW
              have qj2 : ¬ ((Y.length : Int) < (Y.length : Int)) := by omega
              rw [ej]
              clear hjl oS oO BW ej hj qj
              go_wp2_with fail
              have e1 : (X.take X.length).filter (offF p) = X.filter (offF p) := by rw [List.take_length]
              have e2 : (Y.take Y.length).filter (offF p) = X.filter (offF p) := by rw [List.take_length]; exact HXY.out.symm
              rw [e1] at oA2
              rw [e2] at oB2
              clear dO
              have e3 : Y.filter (offF p) = X.filter (offF p) := HXY.out.symm
              try simp only [List.take_length]
              rw [e3]
              have lF : (X.filter (offF p)).length ≤ X.length := List.length_filter_le _ _
              obtain ⟨F, hF⟩ : ∃ F, X.filter (offF p) = F := ⟨_, rfl⟩
              rw [hF] at oA2 oB2 lF ⊢
              clear hF e1 e2 e3 HXY
              have hLf := lwFilesC sA sa sAc sc F V2 (Fl.OB.of oA2) (Fl.OB.of oB2) (by omega)
              have KE := HK2.out.below (by rw [HQ9.out]; exact HB9.out.trans BV2)
              clear oA2 oB2 BV2 X9 Y9 K9
              go_wp2_with fail
              refine hLf.mono ?_; rintro e u8 ⟨rfl, n8, hu8⟩
              have K8 : FW w L R g c ra rc pr 0 u8 := by rw [hu8]; exact KE.drewN n8
              have H8 : Hid (FW w L R g c ra rc pr 0 u8) := K8
              clear K8 KE hLf hu8
              go_wp2_with fail
              go_roundw
              case rel => exact ⟨k + 1, by omega, by go_num, H8.out⟩
              case measure => simp [intOf]; omega
    · have qk : ¬ (k : Int) < 4 := by omega
      have HB : Hid (Below w.heap.size w V) := K.bel
      clear K
      go_wp2_with fail
      go_ret
      exact ⟨rfl, HB.out⟩

set_option linter.unusedVariables false
theorem laidOut : laidOutB Tryd.prog = true := by kernel_rfl
theorem own : ownKnob Tryd.prog.godebug = none := by kernel_rfl
set_option maxRecDepth 100000 in
theorem lifted (os : Os) (started : os.Started) (H : Type) (enc : TypeId × Value → H) :
    ReturnsInHanded {} Tryd.checked os 3 .any (fun w args => (Rows.fnResolvesSpec.pre enc Tryd.prog Tryd.f3 [] false w args ∧ laidMetH Tryd.prog Rows.fnResolvesRow.laid w) ∧ sizedMet enc Tryd.prog Tryd.f3 (OpenSpec.ofChange Rows.fnResolvesSpec) false w args)
      (Rows.fnResolvesSpec.post enc Tryd.prog Tryd.f3 false true false false) := by
  refine returnsInHanded_of_change_and (C := Tryd.checked) (X := fun w _ => laidMetH Tryd.prog Rows.fnResolvesRow.laid w) (fun _ _ _ hh h => h.of_heap hh) own started (by kernel_rfl) Tryd.func3
    (ChangeSpec.witness_shaped (enc := enc) (C := Tryd.checked) (os := os) (X := fun w _ => laidMetH Tryd.prog Rows.fnResolvesRow.laid w) false (World.laidAll Tryd.prog os Rows.fnResolvesRow.laid) #[.slice none 0 0] 8 (World.laidAll_os _ _ _) (World.shaped_of_ZipB (by kernel_rfl) (by kernel_rfl)) (by kernel_rfl) (by kernel_rfl) (by kernel_rfl) (by rw [MakeChecks.laidMetH_plain _ _ _ (by kernel_rfl)]; exact laidMet_laidAll _ (by kernel_rfl) (by kernel_rfl))) ?_
  intro W base args ds gs before hval0 hW _ _ hL _
  have hval : ∀ (j : Nat) t v, Tryd.f3.params[j]? = some t → args[j]? = some v → Value.okWide Tryd.prog W .any base t v := hval0
  have hW' := hW
  obtain ⟨p, q, hA0, hV, rfl, hfz, hnd⟩ := hW
  have hA : DataW.TrodAll enc Tryd.prog W 0 (fun _ => true) true Tryd.f3.params.toList args.toList ds p := hA0
  rw [Tryd.params3] at hA hval
  obtain ⟨v0, vs0, d0, ds0, p0, q0, hargs, rfl, rfl, h0, r0⟩ := trodAll_cons hA
  obtain ⟨rfl, rfl, rfl⟩ := trodAll_nil r0
  obtain rfl : args = #[v0] := by cases args; simp_all
  obtain ⟨rfl, rfl⟩ := trodVars_none hV
  obtain ⟨a0, len0, cap0, rfl⟩ := okWide_slice Tryd.underlying22 (hval 0 22 v0 rfl rfl)
  have k0 := h0
  have lt0 : ∀ x ∈ p0, x.block < W.heap.size := by obtain ⟨m, hm⟩ := k0; exact DataW.trod_lt m _ _ _ hm
  obtain ⟨w0, n0⟩ := openBts h0 lt0
  clear hA0 hval0
  refine (walk a0 len0 cap0 W w0 n0).mono fun e W' ⟨he, bel⟩ => ?_
  subst he
  exact ⟨_, rfl, _, _, _, [], _, [], hW', trodAll_mk1 (shut_bool Tryd.underlying4 _), (trodAll_cons_mk (Below.trod laidOut (by kernel_rfl) (of_decide_eq_true (by kernel_rfl)) k0 bel lt0) trodAll_mk0), rfl, bel.frame _, fun h => by cases h⟩

theorem over : Rows.fnResolvesRow.holds Tryd.pinned (OpenSpec.ofChange Rows.fnResolvesSpec) :=
  OpenClaim.holds_of_wide 3 Tryd.f3 rfl rfl rfl rfl rfl rfl rfl ⟨rfl, rfl, rfl, rfl, rfl⟩ rfl rfl rfl rfl rfl (by kernel_rfl) Tryd.func3 (by kernel_rfl)
    (of_decide_eq_true (by kernel_rfl)) (by unfold Func.isWrapper; first | (rw [if_pos (by decide +kernel)]; kernel_rfl) | (rw [if_neg (by decide +kernel)]; exact ⟨rfl, rfl⟩))
    (fun os started H enc _ => lifted os started H enc)

theorem proved : Rows.FnResolvesCardSaid :=
  Claim7.holds_tied_plain_at .later [] [.data, .pinned] true _ false
    over (fun _ h => by cases h) (by kernel_rfl) (fun _ h => by cases h) fnResolves_row_tie rfl ⟨rfl, rfl⟩ (by kernel_rfl) rfl
    (fun f fn hf hfn => by
      obtain rfl : f = 3 := Option.some.inj ((show Tryd.prog.funcNamed "loop.example/g00172/laws.FnResolves" = some 3 by kernel_rfl).symm.trans hf) |>.symm
      obtain rfl : fn = Tryd.f3 := (Option.some.inj (Tryd.func3.symm.trans hfn)).symm
      exact ⟨by kernel_rfl, fun j t ht => by
        rw [Tryd.params3] at ht
        have hm : t ∈ [22] := by simpa using Array.mem_of_getElem? ht
        have hall : ([22].all fun u => !Tryd.prog.wantsStandIn u) = true := by kernel_rfl
        exact (show Tryd.prog.wantsStandIn t = false by simpa using List.all_eq_true.1 hall t hm)⟩)
    (by kernel_rfl)
end Go.Proofs.YtipdebodanhooaaDoor.RsF
namespace Go.Proofs.YtipdebodanhooaaDoor
theorem fnResolves_proved : Rows.FnResolvesCardSaid := RsF.proved
end Go.Proofs.YtipdebodanhooaaDoor
