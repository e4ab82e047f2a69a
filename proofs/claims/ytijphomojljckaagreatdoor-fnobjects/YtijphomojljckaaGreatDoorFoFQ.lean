/- Proved: at every code FnObjects returns true (trees and commits that are read are written as they were, and commits that are written are read back); the card itself. -/
import Derived.Test.YtijphomojljckaaGreatDoorRows
import Derived.Test.YtijphomojljckaaGreatDoorLemQ
import Derived.Test.YtijphomojljckaaGreatDoorMarksQ
import Derived.Test.YtijphomojljckaaGreatDoorLFLemQ
import Derived.Test.YtijphomojljckaaGreatDoorComQ
import Derived.Test.YtijphomojljckaaGreatDoorHkTQ
import Derived.Test.YtijphomojljckaaGreatDoorIterQ
import Derived.Test.YtijphomojljckaaGreatDoorAsCQ
import Derived.Test.YtijphomojljckaaGreatDoorTeLQ
import Derived.Test.YtijphomojljckaaGreatDoorTrCQ
import Derived.Test.YtijphomojljckaaGreatDoorTrFQ
import Derived.Test.YtijphomojljckaaGreatDoorTrEQ
import Derived.Test.YtijphomojljckaaGreatDoorDtLQ
import Derived.Test.YtijphomojljckaaGreatDoorWtCQ
import Derived.Test.YtijphomojljckaaGreatDoorRtCQ
import Derived.Test.YtijphomojljckaaGreatDoorDtWQ
import Derived.Test.YtijphomojljckaaGreatDoorFpSQ
import Derived.Test.YtijphomojljckaaGreatDoorNtCQ
import Derived.Test.YtijphomojljckaaGreatDoorCfSQ
import Derived.Test.YtijphomojljckaaGreatDoorCmTQ
import Derived.Test.YtijphomojljckaaGreatDoorCmJQ
import Derived.Test.YtijphomojljckaaGreatDoorDcLQ
import Derived.Test.YtijphomojljckaaGreatDoorDcWQ
import Derived.Test.YtijphomojljckaaGreatDoorRcHQ
import Derived.Test.YtijphomojljckaaGreatDoorRcCQ
import Derived.Test.YtijphomojljckaaGreatDoorSameCQ
import Derived.Test.YtijphomojljckaaGreatDoorFoMQ
import Derived.Test.YtijphomojljckaaGreatDoorDrawQ
import Derived.Test.YtijphomojljckaaGreatDoorDraw27Q
import Derived.Test.YtijphomojljckaaGreatDoorTie
import Derived.Test.YtijphomojljckaaGreatDoorCards
import Derived.WalkKit
import Derived.ProofKit
import Derived.OpenShut
import Derived.ShutString
import Derived.Below
import Derived.Carry
import Derived.ChangeVars
import Derived.OpenVars
import Derived.LaidMore
import Derived.Lay
import Derived.SevenTiedAt
import Derived.Stop.Joined
import Derived.JoinedOf
import Derived.Deep.QuietTactic
import Derived.BigQuiet
import Derived.Deep.RegionWith
import Derived.Deep.RegionHeld
import Derived.Deep.Cut
import Derived.Deep.CutRange
set_option linter.unusedVariables false
namespace Go.Proofs.YtijphomojljckaaGreatDoor.FoF
open Go.ChangeShapes Go.WideShapes Go.ChangeAt Go.RowKit
open Go.ChangeMaps (open_string shut_string)
open Go.Proofs.YtijphomojljckaaGreatDoor.Fo
theorem takeD {P : Program} {md : Region.Mode} {ops : Array Oper} {Q : Exit → Act → World → Prop} {S : World → Prop} {i d : Nat} {oi : Oper} {v : Value} {fuel : Nat} {listed listed' : Array Bool} {a : Act} {w : World} (hi : ops[i]? = some oi)
    (hs : Region.noSelect ops = true) (hf : Region.free md ops listed i = true) (hr : (Region.ready md ops listed).contains i = true)
    (hQ : ∀ c a w, Q (.panic c) (a.put oi.dst v) w → Q (.panic c) a w) (hy : YieldsIf P ops S oi v a) (hS : S w) (hd : oi.dst = some d) (hl : listed.setIfInBounds i true = listed')
    (h : wpAnyH P md ops Q S fuel listed' (a.put (some d) v) w) : wpAnyH P md ops Q S (fuel + 1) listed a w := by
  subst hl
  exact wpAnyH_take hi hs hf hr hQ hy hS (by rw [hd]; exact h)
theorem lwBig (a : Option Addr) (n cap : Nat) (w : World) : Calls Tryz.prog 4 #[.slice a n cap] w fun e w' => e = .returned (.bool (decide ((1048576 : Int) < (n : Int)))) ∧ w' = w := by
  go_enter Tryz.func4, Tryz.ntmps4
  go_wp2
  go_ret
  exact ⟨rfl, rfl⟩
theorem zc {w w' : World} {b o : Nat} {v : Value} (h : Below w.heap.size w w') (hc : w.cell? ⟨b, o, none⟩ = some v) : w'.cell? ⟨b, o, none⟩ = some v := (Fr.ofBelow (lo := 0) (hi := 0) h).cell hc (.inr (Nat.zero_le _))
theorem ne_self (t : ByteArray) : (t.toList != t.toList) = false := by simp
theorem shapeT {w : World} {base : Nat} {v : Value} {L : List Te.Ob} (h : w.ownsRow base 72 3 v L.length (Te.ocells L)) : ∃ a c, v = .slice a L.length c := by
  rcases h.2 with ⟨e, h0⟩ | ⟨g, c, cur, e, _⟩
  · exact ⟨none, 0, by rw [e, h0]⟩
  · exact ⟨_, _, e⟩
theorem dk_small (s : ByteArray) : Small 100 (Dc.dcK s).2.1 := by
  cases hI : Dc.dcI Dc.pI s with
  | none => rw [(Dc.dc_none hI).2]; exact Small.nil _
  | some c =>
    rw [(Dc.dc_some hI).2]
    obtain ⟨h0, h1⟩ := Dc.dcI_some hI
    obtain ⟨k0, k1, k2⟩ := cmF_zero h0
    intro x hx
    obtain ⟨j, hj, rfl⟩ := List.mem_iff_getElem.1 hx
    have := Te.isOf_size ((hd_zero k0).2.2 j hj).1
    rw [List.getD, List.getElem?_eq_getElem hj] at this
    have e : (c.2.1[j]).size = 5 := this
    omega
theorem dc_code (s : ByteArray) : Dc.dcC s = 0 ∨ Dc.dcC s = 5 := by
  unfold Dc.dcC; split
  · exact .inl rfl
  · exact .inr rfl
theorem dt_code (s : ByteArray) : Te.dtC s = 0 ∨ Te.dtC s = 5 := by
  unfold Te.dtC; split
  · exact .inl rfl
  · exact .inr rfl
set_option maxRecDepth 20000 in
set_option maxHeartbeats 8000000 in
theorem walk (a : Option Addr) (n cap : Nat) (w : World) (h : Bts w a n) (_hm : n ≤ 9223372036854775807) (hMw : Te.MwG w) (hM0 : 0 < w.heap.size) (hTa : TaG w) (hT0 : 6 < w.heap.size) (hOf : Dc.OfG w) (hO0 : 1 < w.heap.size) (hPe : Dc.PeG w) (hP1 : 4 < w.heap.size) (hP2 : 5 < w.heap.size) (hE : ErrG w) :
    Calls Tryz.prog 3 #[.slice a n cap] w fun e w' => e = .returned (.bool true) ∧ Below w.heap.size w w' := by
  by_cases hbig : (1048576 : Int) < (n : Int)
  · go_enter Tryz.func3, Tryz.ntmps3
    go_wp2_with (go_at_call 4; refine (lwBig _ _ _ _).mono ?_; rintro e w' ⟨rfl, rfl⟩)
    go_ret
    exact ⟨rfl, Below.refl _ _⟩
  have hIT := fun (t : ByteArray) (ht : t.size ≤ 10000) W (b : Below w.heap.size w W) => Te.implDecodeTree t W (by omega) (hMw.below b hM0) (Nat.lt_of_lt_of_le hM0 b.size) (Dc.OfG.below hOf b hO0) (Nat.lt_of_lt_of_le hO0 b.size) (hE.below b)
  have hIE := fun (a : Option Addr) (c : Nat) (l : List Te.Ob) W (x : Te.OB W.heap.size W a l) (q : l.length ≤ 1048576) (b : Below w.heap.size w W) => Te.implEncodeTree a c l W x (hMw.below b hM0) (Nat.lt_of_lt_of_le hM0 b.size) (hE.below b) q
  have hIC := fun (t : ByteArray) (ht : t.size ≤ 10000) W (b : Below w.heap.size w W) => Dc.implDecodeCommit t W (by omega) (hTa.below b hT0) (Nat.lt_of_lt_of_le hT0 b.size) (hOf.below b hO0) (Nat.lt_of_lt_of_le hO0 b.size) (hPe.below b hP1 hP2) (Nat.lt_of_lt_of_le hP1 b.size) (Nat.lt_of_lt_of_le hP2 b.size) (hE.below b)
  have hID := fun (t : ByteArray) (a : Option Addr) (c : Nat) (ps : List ByteArray) (tm : Int) (no : ByteArray) W (x : SS W a ps) (q : ps.length ≤ c) (q2 : ps.length ≤ 1048576) (b : Below w.heap.size w W) => Cm.implEncodeCommit t a c ps tm no W x q q2 (hTa.below b hT0) (Nat.lt_of_lt_of_le hT0 b.size) (hE.below b)
  have hST := fun (t : ByteArray) (ht : t.size ≤ 10000) W => Te.specDecodeTree t W (by omega)
  have hSC := fun (t : ByteArray) (ht : t.size ≤ 10000) W => Dc.specDecodeCommit t W (by omega)
  have hBt : ∀ W, Below w.heap.size w W → Bts W a n := fun W b => h.below b
  clear hMw hTa hOf hPe hE
  have hn : n ≤ 1048576 := by omega
  go_enter Tryz.func3, Tryz.ntmps3
  go_wp2_with fail
  refine (lwBig _ _ _ _).mono ?_; rintro e w ⟨rfl, rfl⟩
  go_wp2_with fail
  refine (drawDecodeTree a n cap _ h hn).mono ?_; rintro e w1 ⟨t, rfl, ht, b1⟩
  go_wp2_with fail
  refine (hIT t ht _ b1).mono ?_; rintro e w2 ⟨v2, rfl, o2, b2⟩
  obtain ⟨ea, ec, rfl⟩ := shapeT o2
  have O2 := Te.OB.of o2
  have B2 : Below w.heap.size w w2 := b1.trans (b2.mono b1.size)
  clear b1 b2 o2 hIT
  obtain ⟨W3, hW3⟩ : ∃ W, w2.alloc (.cells #[.int .i64 (Te.dtC t), .slice ea (Te.dtE t).length ec] 27) = W := ⟨_, rfl⟩
  have d3 : Below w2.heap.size w2 W3 := by rw [← hW3]; exact allocBelow _ _
  have R3 : Rs W3 w2.heap.size [.int .i64 (Te.dtC t), .slice ea (Te.dtE t).length ec] := by rw [← hW3]; exact Rs.new _ _ _
  have B3 := B2.trans (d3.mono B2.size)
  have O3 : Te.OB W3.heap.size W3 ea (Te.dtE t) := (O2.below d3).mono d3.size
  obtain ⟨rb, hrb⟩ : ∃ p, w2.heap.size = p := ⟨_, rfl⟩
  have r0 := R3 0 _ rfl
  have r1 := R3 1 _ rfl
  rw [hrb] at r0 r1
  have hln := de_short t
  clear R3 O2 d3 B2
  go_upto_region 5 with fail
  go_cut [39] from 16 to 40 (fun s wx => s = .bool false ∧ Below W3.heap.size W3 wx)
  case first =>
    have BD : Below W3.heap.size W3 W3.drew := (Below.refl _ _).drew
    have OD : Te.OB W3.drew.heap.size W3.drew ea (Te.dtE t) := O3
    have BG : Below w.heap.size w W3.drew := B3.trans (BD.mono B3.size)
    rcases dt_code t with h0 | h0
    · have hb := et_back h0
      have hF := fun W x b => hIE ea ec (Te.dtE t) W x (by omega) b
      rw [hb] at hF
      rw [h0] at r0
      obtain ⟨L, hL⟩ : ∃ L, Te.dtE t = L := ⟨_, rfl⟩
      rw [hL] at hF OD r1
      obtain ⟨K, hK⟩ : ∃ K, Te.tfl L = K := ⟨_, rfl⟩
      rw [hK] at hF
      have fl1 : ∀ W : World, (Instr.field 30 (.agg #[.int .i64 K, .string t]) 1).run Tryz.prog W = .ok (.string t) W := fun W => by kernel_rfl
      have hne := ne_self t
      clear hIE hIC hID hST hSC hBt O3 B3 hW3 hrb hb h0 hL hK hln
      refine wp_region_held_drew (S := (fun w' => w'.cell? ⟨rb, 0, none⟩ = some (.int .i64 0) ∧ w'.cell? ⟨rb, 1, none⟩ = some (.slice ea L.length ec))) (by kernel_rfl) ⟨r0, r1⟩ (fun hHeld => ?_)
      refine takeD (i := 0) (d := 16) (oi := _) (v := ?_) (listed' := #[true, false, false, false, false, false, false, false, false, false, false, false, false, false, false, false, false, false, false, false, false, false, false, false]) rfl (by kernel_rfl) (by kernel_rfl) (by kernel_rfl) (fun _ _ _ h => h) (Or.inl ⟨by rfl, ?_⟩) hHeld (by kernel_rfl) (by kernel_rfl) ?_
      rotate_left
      · intro w hSw
        try dsimp only at hSw
        first
          | (go_simp; done)
          | (go_simp; with_reducible rfl)
          | (go_simp; simp [hne])
          | (go_simp; simp)
      simp only [Act.put, List.setIfInBounds_toArray, List.set_cons_zero, List.set_cons_succ]
      refine takeD (i := 1) (d := 17) (oi := _) (v := ?_) (listed' := #[true, true, false, false, false, false, false, false, false, false, false, false, false, false, false, false, false, false, false, false, false, false, false, false]) rfl (by kernel_rfl) (by kernel_rfl) (by kernel_rfl) (fun _ _ _ h => h) (Or.inl ⟨by rfl, ?_⟩) hHeld (by kernel_rfl) (by kernel_rfl) ?_
      rotate_left
      · intro w hSw
        try dsimp only at hSw
        first
          | (go_simp; done)
          | (go_simp; with_reducible rfl)
          | (go_simp; simp [hne])
          | (go_simp; simp)
      simp only [Act.put, List.setIfInBounds_toArray, List.set_cons_zero, List.set_cons_succ]
      refine takeD (i := 2) (d := 18) (oi := _) (v := .bool true) (listed' := #[true, true, true, false, false, false, false, false, false, false, false, false, false, false, false, false, false, false, false, false, false, false, false, false]) rfl (by kernel_rfl) (by kernel_rfl) (by kernel_rfl) (fun _ _ _ h => h) (Or.inl ⟨by rfl, ?_⟩) hHeld (by kernel_rfl) (by kernel_rfl) ?_
      · intro w hSw
        try dsimp only at hSw
        first
          | (go_simp; done)
          | (go_simp; with_reducible rfl)
          | (go_simp; simp [hne])
          | (go_simp; simp)
      simp only [Act.put, List.setIfInBounds_toArray, List.set_cons_zero, List.set_cons_succ]
      refine takeD (i := 3) (d := 19) (oi := _) (v := .bool true) (listed' := #[true, true, true, true, false, false, false, false, false, false, false, false, false, false, false, false, false, false, false, false, false, false, false, false]) rfl (by kernel_rfl) (by kernel_rfl) (by kernel_rfl) (fun _ _ _ h => h) (Or.inl ⟨by rfl, ?_⟩) hHeld (by kernel_rfl) (by kernel_rfl) ?_
      · intro w hSw
        try dsimp only at hSw
        first
          | (go_simp; done)
          | (go_simp; with_reducible rfl)
          | (go_simp; simp [hne])
          | (go_simp; simp)
      simp only [Act.put, List.setIfInBounds_toArray, List.set_cons_zero, List.set_cons_succ]
      refine takeD (i := 4) (d := 20) (oi := _) (v := ?_) (listed' := #[true, true, true, true, true, false, false, false, false, false, false, false, false, false, false, false, false, false, false, false, false, false, false, false]) rfl (by kernel_rfl) (by kernel_rfl) (by kernel_rfl) (fun _ _ _ h => h) (Or.inl ⟨by rfl, ?_⟩) hHeld (by kernel_rfl) (by kernel_rfl) ?_
      rotate_left
      · intro w hSw
        try dsimp only at hSw
        first
          | (go_simp; done)
          | (go_simp; with_reducible rfl)
          | (go_simp; simp [hne])
          | (go_simp; simp)
      simp only [Act.put, List.setIfInBounds_toArray, List.set_cons_zero, List.set_cons_succ]
      refine takeD (i := 5) (d := 21) (oi := _) (v := ?_) (listed' := #[true, true, true, true, true, true, false, false, false, false, false, false, false, false, false, false, false, false, false, false, false, false, false, false]) rfl (by kernel_rfl) (by kernel_rfl) (by kernel_rfl) (fun _ _ _ h => h) (Or.inl ⟨by rfl, ?_⟩) hHeld (by kernel_rfl) (by kernel_rfl) ?_
      rotate_left
      · intro w hSw
        try dsimp only at hSw
        first
          | (go_simp; done)
          | (go_simp; with_reducible rfl)
          | (go_simp; simp [hne])
          | (go_simp; simp)
      simp only [Act.put, List.setIfInBounds_toArray, List.set_cons_zero, List.set_cons_succ]
      refine takeD (i := 8) (d := 24) (oi := _) (v := ?_) (listed' := #[true, true, true, true, true, true, false, false, true, false, false, false, false, false, false, false, false, false, false, false, false, false, false, false]) rfl (by kernel_rfl) (by kernel_rfl) (by kernel_rfl) (fun _ _ _ h => h) (Or.inl ⟨by rfl, ?_⟩) hHeld (by kernel_rfl) (by kernel_rfl) ?_
      rotate_left
      · intro w hSw
        try dsimp only at hSw
        first
          | (go_simp; done)
          | (go_simp; with_reducible rfl)
          | (go_simp; simp [hne])
          | (go_simp; simp)
      simp only [Act.put, List.setIfInBounds_toArray, List.set_cons_zero, List.set_cons_succ]
      refine wpAnyH_ready (rs := [6]) (by kernel_rfl) (by simp) ?_
      refine AllReadyH.cons (o := _) rfl (fun K' hK' => ?_) AllReadyH.nil
      go_simp
      refine (hF _ OD BG).mono ?_
      rintro e wa ⟨rfl, ba⟩
      have R0 := zc ba r0
      have R1 := zc ba r1
      have Bt1 : Below W3.heap.size W3 wa := BD.trans (ba.mono BD.size)
      refine hK'.out _ _ ⟨R0, R1⟩ (fun hS4 => ?_)
      clear hK' K'
      simp only [List.setIfInBounds_toArray, List.set_cons_zero, List.set_cons_succ]
      refine takeD (i := 7) (d := 23) (oi := _) (v := ?_) (listed' := #[true, true, true, true, true, true, true, true, true, false, false, false, false, false, false, false, false, false, false, false, false, false, false, false]) rfl (by kernel_rfl) (by kernel_rfl) (by kernel_rfl) (fun _ _ _ h => h) (Or.inl ⟨by rfl, ?_⟩) hS4 (by kernel_rfl) (by kernel_rfl) ?_
      rotate_left
      · intro w hSw
        try dsimp only at hSw
        first
          | (go_simp; done)
          | (go_simp; with_reducible rfl)
          | (go_simp; simp [hne])
          | (go_simp; simp)
      simp only [Act.put, List.setIfInBounds_toArray, List.set_cons_zero, List.set_cons_succ]
      refine takeD (i := 9) (d := 25) (oi := _) (v := .bool false) (listed' := #[true, true, true, true, true, true, true, true, true, true, false, false, false, false, false, false, false, false, false, false, false, false, false, false]) rfl (by kernel_rfl) (by kernel_rfl) (by kernel_rfl) (fun _ _ _ h => h) (Or.inl ⟨by rfl, ?_⟩) hS4 (by kernel_rfl) (by kernel_rfl) ?_
      · intro w hSw
        try dsimp only at hSw
        first
          | (go_simp; done)
          | (go_simp; with_reducible rfl)
          | (go_simp; simp [hne])
          | (go_simp; simp)
      simp only [Act.put, List.setIfInBounds_toArray, List.set_cons_zero, List.set_cons_succ]
      refine takeD (i := 10) (d := 26) (oi := _) (v := .bool false) (listed' := #[true, true, true, true, true, true, true, true, true, true, true, false, false, false, false, false, false, false, false, false, false, false, false, false]) rfl (by kernel_rfl) (by kernel_rfl) (by kernel_rfl) (fun _ _ _ h => h) (Or.inl ⟨by rfl, ?_⟩) hS4 (by kernel_rfl) (by kernel_rfl) ?_
      · intro w hSw
        try dsimp only at hSw
        first
          | (go_simp; done)
          | (go_simp; with_reducible rfl)
          | (go_simp; simp [hne])
          | (go_simp; simp)
      simp only [Act.put, List.setIfInBounds_toArray, List.set_cons_zero, List.set_cons_succ]
      refine takeD (i := 11) (d := 27) (oi := _) (v := .bool false) (listed' := #[true, true, true, true, true, true, true, true, true, true, true, true, false, false, false, false, false, false, false, false, false, false, false, false]) rfl (by kernel_rfl) (by kernel_rfl) (by kernel_rfl) (fun _ _ _ h => h) (Or.inl ⟨by rfl, ?_⟩) hS4 (by kernel_rfl) (by kernel_rfl) ?_
      · intro w hSw
        try dsimp only at hSw
        first
          | (go_simp; done)
          | (go_simp; with_reducible rfl)
          | (go_simp; simp [hne])
          | (go_simp; simp)
      simp only [Act.put, List.setIfInBounds_toArray, List.set_cons_zero, List.set_cons_succ]
      refine takeD (i := 12) (d := 28) (oi := _) (v := ?_) (listed' := #[true, true, true, true, true, true, true, true, true, true, true, true, true, false, false, false, false, false, false, false, false, false, false, false]) rfl (by kernel_rfl) (by kernel_rfl) (by kernel_rfl) (fun _ _ _ h => h) (Or.inl ⟨by rfl, ?_⟩) hS4 (by kernel_rfl) (by kernel_rfl) ?_
      rotate_left
      · intro w hSw
        try dsimp only at hSw
        first
          | (go_simp; done)
          | (go_simp; with_reducible rfl)
          | (go_simp; simp [hne])
          | (go_simp; simp)
      simp only [Act.put, List.setIfInBounds_toArray, List.set_cons_zero, List.set_cons_succ]
      refine takeD (i := 13) (d := 29) (oi := _) (v := .int .i64 0) (listed' := #[true, true, true, true, true, true, true, true, true, true, true, true, true, true, false, false, false, false, false, false, false, false, false, false]) rfl (by kernel_rfl) (by kernel_rfl) (by kernel_rfl) (fun _ _ _ h => h) (Or.inl ⟨by rfl, ?_⟩) hS4 (by kernel_rfl) (by kernel_rfl) ?_
      · intro w hSw
        try dsimp only at hSw
        first
          | (go_simp; done)
          | (go_simp; with_reducible rfl)
          | (go_simp; simp [hne])
          | (go_simp; simp)
      simp only [Act.put, List.setIfInBounds_toArray, List.set_cons_zero, List.set_cons_succ]
      refine takeD (i := 14) (d := 30) (oi := _) (v := .bool false) (listed' := #[true, true, true, true, true, true, true, true, true, true, true, true, true, true, true, false, false, false, false, false, false, false, false, false]) rfl (by kernel_rfl) (by kernel_rfl) (by kernel_rfl) (fun _ _ _ h => h) (Or.inl ⟨by rfl, ?_⟩) hS4 (by kernel_rfl) (by kernel_rfl) ?_
      · intro w hSw
        try dsimp only at hSw
        first
          | (go_simp; done)
          | (go_simp; with_reducible rfl)
          | (go_simp; simp [hne])
          | (go_simp; simp)
      simp only [Act.put, List.setIfInBounds_toArray, List.set_cons_zero, List.set_cons_succ]
      refine takeD (i := 15) (d := 31) (oi := _) (v := .bool false) (listed' := #[true, true, true, true, true, true, true, true, true, true, true, true, true, true, true, true, false, false, false, false, false, false, false, false]) rfl (by kernel_rfl) (by kernel_rfl) (by kernel_rfl) (fun _ _ _ h => h) (Or.inl ⟨by rfl, ?_⟩) hS4 (by kernel_rfl) (by kernel_rfl) ?_
      · intro w hSw
        try dsimp only at hSw
        first
          | (go_simp; done)
          | (go_simp; with_reducible rfl)
          | (go_simp; simp [hne])
          | (go_simp; simp)
      simp only [Act.put, List.setIfInBounds_toArray, List.set_cons_zero, List.set_cons_succ]
      refine takeD (i := 16) (d := 32) (oi := _) (v := undef) (listed' := #[true, true, true, true, true, true, true, true, true, true, true, true, true, true, true, true, true, false, false, false, false, false, false, false]) rfl (by kernel_rfl) (by kernel_rfl) (by kernel_rfl) (fun _ _ _ h => h) (Or.inr ⟨by rfl, rfl⟩) hS4 (by kernel_rfl) (by kernel_rfl) ?_
      simp only [Act.put, List.setIfInBounds_toArray, List.set_cons_zero, List.set_cons_succ]
      refine takeD (i := 17) (d := 33) (oi := _) (v := undef) (listed' := #[true, true, true, true, true, true, true, true, true, true, true, true, true, true, true, true, true, true, false, false, false, false, false, false]) rfl (by kernel_rfl) (by kernel_rfl) (by kernel_rfl) (fun _ _ _ h => h) (Or.inr ⟨by rfl, rfl⟩) hS4 (by kernel_rfl) (by kernel_rfl) ?_
      simp only [Act.put, List.setIfInBounds_toArray, List.set_cons_zero, List.set_cons_succ]
      refine takeD (i := 18) (d := 34) (oi := _) (v := undef) (listed' := #[true, true, true, true, true, true, true, true, true, true, true, true, true, true, true, true, true, true, true, false, false, false, false, false]) rfl (by kernel_rfl) (by kernel_rfl) (by kernel_rfl) (fun _ _ _ h => h) (Or.inr ⟨by rfl, rfl⟩) hS4 (by kernel_rfl) (by kernel_rfl) ?_
      simp only [Act.put, List.setIfInBounds_toArray, List.set_cons_zero, List.set_cons_succ]
      refine takeD (i := 19) (d := 35) (oi := _) (v := undef) (listed' := #[true, true, true, true, true, true, true, true, true, true, true, true, true, true, true, true, true, true, true, true, false, false, false, false]) rfl (by kernel_rfl) (by kernel_rfl) (by kernel_rfl) (fun _ _ _ h => h) (Or.inr ⟨by rfl, rfl⟩) hS4 (by kernel_rfl) (by kernel_rfl) ?_
      simp only [Act.put, List.setIfInBounds_toArray, List.set_cons_zero, List.set_cons_succ]
      refine takeD (i := 20) (d := 36) (oi := _) (v := undef) (listed' := #[true, true, true, true, true, true, true, true, true, true, true, true, true, true, true, true, true, true, true, true, true, false, false, false]) rfl (by kernel_rfl) (by kernel_rfl) (by kernel_rfl) (fun _ _ _ h => h) (Or.inr ⟨by rfl, rfl⟩) hS4 (by kernel_rfl) (by kernel_rfl) ?_
      simp only [Act.put, List.setIfInBounds_toArray, List.set_cons_zero, List.set_cons_succ]
      refine takeD (i := 21) (d := 37) (oi := _) (v := undef) (listed' := #[true, true, true, true, true, true, true, true, true, true, true, true, true, true, true, true, true, true, true, true, true, true, false, false]) rfl (by kernel_rfl) (by kernel_rfl) (by kernel_rfl) (fun _ _ _ h => h) (Or.inr ⟨by rfl, rfl⟩) hS4 (by kernel_rfl) (by kernel_rfl) ?_
      simp only [Act.put, List.setIfInBounds_toArray, List.set_cons_zero, List.set_cons_succ]
      refine takeD (i := 22) (d := 38) (oi := _) (v := .bool false) (listed' := #[true, true, true, true, true, true, true, true, true, true, true, true, true, true, true, true, true, true, true, true, true, true, true, false]) rfl (by kernel_rfl) (by kernel_rfl) (by kernel_rfl) (fun _ _ _ h => h) (Or.inl ⟨by rfl, ?_⟩) hS4 (by kernel_rfl) (by kernel_rfl) ?_
      · intro w hSw
        try dsimp only at hSw
        first
          | (go_simp; done)
          | (go_simp; with_reducible rfl)
          | (go_simp; simp [hne])
          | (go_simp; simp)
      simp only [Act.put, List.setIfInBounds_toArray, List.set_cons_zero, List.set_cons_succ]
      refine takeD (i := 23) (d := 39) (oi := _) (v := .bool false) (listed' := #[true, true, true, true, true, true, true, true, true, true, true, true, true, true, true, true, true, true, true, true, true, true, true, true]) rfl (by kernel_rfl) (by kernel_rfl) (by kernel_rfl) (fun _ _ _ h => h) (Or.inl ⟨by rfl, ?_⟩) hS4 (by kernel_rfl) (by kernel_rfl) ?_
      · intro w hSw
        try dsimp only at hSw
        first
          | (go_simp; done)
          | (go_simp; with_reducible rfl)
          | (go_simp; simp [hne])
          | (go_simp; simp)
      simp only [Act.put, List.setIfInBounds_toArray, List.set_cons_zero, List.set_cons_succ]
      refine wpAnyH_done (by kernel_rfl) ?_ _
      go_wp2_with fail
      go_meet
      exact ⟨rfl, Bt1⟩
    · have hF := hST t ht
      rw [h0] at r0
      have fl1 : ∀ (v : Value) (W : World), (Instr.field 27 (.agg #[.int .i64 5, v]) 0).run Tryz.prog W = .ok (.int .i64 5) W := fun v W => by kernel_rfl
      unfold Te.DT at hF
      rw [h0] at hF
      clear hIE hIC hID hST hSC hBt O3 B3 hW3 hrb h0 hln OD
      refine wp_region_held_drew (S := (fun w' => w'.cell? ⟨rb, 0, none⟩ = some (.int .i64 5))) (by kernel_rfl) r0 (fun hHeld => ?_)
      refine takeD (i := 0) (d := 16) (oi := _) (v := ?_) (listed' := #[true, false, false, false, false, false, false, false, false, false, false, false, false, false, false, false, false, false, false, false, false, false, false, false]) rfl (by kernel_rfl) (by kernel_rfl) (by kernel_rfl) (fun _ _ _ h => h) (Or.inl ⟨by rfl, ?_⟩) hHeld (by kernel_rfl) (by kernel_rfl) ?_
      rotate_left
      · intro w hSw
        try dsimp only at hSw
        first
          | (go_simp; done)
          | (go_simp; with_reducible rfl)
          | (go_simp; simp [hne])
          | (go_simp; simp)
      simp only [Act.put, List.setIfInBounds_toArray, List.set_cons_zero, List.set_cons_succ]
      refine takeD (i := 1) (d := 17) (oi := _) (v := ?_) (listed' := #[true, true, false, false, false, false, false, false, false, false, false, false, false, false, false, false, false, false, false, false, false, false, false, false]) rfl (by kernel_rfl) (by kernel_rfl) (by kernel_rfl) (fun _ _ _ h => h) (Or.inl ⟨by rfl, ?_⟩) hHeld (by kernel_rfl) (by kernel_rfl) ?_
      rotate_left
      · intro w hSw
        try dsimp only at hSw
        first
          | (go_simp; done)
          | (go_simp; with_reducible rfl)
          | (go_simp; simp [hne])
          | (go_simp; simp)
      simp only [Act.put, List.setIfInBounds_toArray, List.set_cons_zero, List.set_cons_succ]
      refine takeD (i := 2) (d := 18) (oi := _) (v := .bool false) (listed' := #[true, true, true, false, false, false, false, false, false, false, false, false, false, false, false, false, false, false, false, false, false, false, false, false]) rfl (by kernel_rfl) (by kernel_rfl) (by kernel_rfl) (fun _ _ _ h => h) (Or.inl ⟨by rfl, ?_⟩) hHeld (by kernel_rfl) (by kernel_rfl) ?_
      · intro w hSw
        try dsimp only at hSw
        first
          | (go_simp; done)
          | (go_simp; with_reducible rfl)
          | (go_simp; simp [hne])
          | (go_simp; simp)
      simp only [Act.put, List.setIfInBounds_toArray, List.set_cons_zero, List.set_cons_succ]
      refine takeD (i := 3) (d := 19) (oi := _) (v := .bool false) (listed' := #[true, true, true, true, false, false, false, false, false, false, false, false, false, false, false, false, false, false, false, false, false, false, false, false]) rfl (by kernel_rfl) (by kernel_rfl) (by kernel_rfl) (fun _ _ _ h => h) (Or.inl ⟨by rfl, ?_⟩) hHeld (by kernel_rfl) (by kernel_rfl) ?_
      · intro w hSw
        try dsimp only at hSw
        first
          | (go_simp; done)
          | (go_simp; with_reducible rfl)
          | (go_simp; simp [hne])
          | (go_simp; simp)
      simp only [Act.put, List.setIfInBounds_toArray, List.set_cons_zero, List.set_cons_succ]
      refine takeD (i := 4) (d := 20) (oi := _) (v := undef) (listed' := #[true, true, true, true, true, false, false, false, false, false, false, false, false, false, false, false, false, false, false, false, false, false, false, false]) rfl (by kernel_rfl) (by kernel_rfl) (by kernel_rfl) (fun _ _ _ h => h) (Or.inr ⟨by rfl, rfl⟩) hHeld (by kernel_rfl) (by kernel_rfl) ?_
      simp only [Act.put, List.setIfInBounds_toArray, List.set_cons_zero, List.set_cons_succ]
      refine takeD (i := 5) (d := 21) (oi := _) (v := undef) (listed' := #[true, true, true, true, true, true, false, false, false, false, false, false, false, false, false, false, false, false, false, false, false, false, false, false]) rfl (by kernel_rfl) (by kernel_rfl) (by kernel_rfl) (fun _ _ _ h => h) (Or.inr ⟨by rfl, rfl⟩) hHeld (by kernel_rfl) (by kernel_rfl) ?_
      simp only [Act.put, List.setIfInBounds_toArray, List.set_cons_zero, List.set_cons_succ]
      refine takeD (i := 6) (d := 22) (oi := _) (v := undef) (listed' := #[true, true, true, true, true, true, true, false, false, false, false, false, false, false, false, false, false, false, false, false, false, false, false, false]) rfl (by kernel_rfl) (by kernel_rfl) (by kernel_rfl) (fun _ _ _ h => h) (Or.inr ⟨by rfl, rfl⟩) hHeld (by kernel_rfl) (by kernel_rfl) ?_
      simp only [Act.put, List.setIfInBounds_toArray, List.set_cons_zero, List.set_cons_succ]
      refine takeD (i := 7) (d := 23) (oi := _) (v := undef) (listed' := #[true, true, true, true, true, true, true, true, false, false, false, false, false, false, false, false, false, false, false, false, false, false, false, false]) rfl (by kernel_rfl) (by kernel_rfl) (by kernel_rfl) (fun _ _ _ h => h) (Or.inr ⟨by rfl, rfl⟩) hHeld (by kernel_rfl) (by kernel_rfl) ?_
      simp only [Act.put, List.setIfInBounds_toArray, List.set_cons_zero, List.set_cons_succ]
      refine takeD (i := 8) (d := 24) (oi := _) (v := undef) (listed' := #[true, true, true, true, true, true, true, true, true, false, false, false, false, false, false, false, false, false, false, false, false, false, false, false]) rfl (by kernel_rfl) (by kernel_rfl) (by kernel_rfl) (fun _ _ _ h => h) (Or.inr ⟨by rfl, rfl⟩) hHeld (by kernel_rfl) (by kernel_rfl) ?_
      simp only [Act.put, List.setIfInBounds_toArray, List.set_cons_zero, List.set_cons_succ]
      refine takeD (i := 9) (d := 25) (oi := _) (v := undef) (listed' := #[true, true, true, true, true, true, true, true, true, true, false, false, false, false, false, false, false, false, false, false, false, false, false, false]) rfl (by kernel_rfl) (by kernel_rfl) (by kernel_rfl) (fun _ _ _ h => h) (Or.inr ⟨by rfl, rfl⟩) hHeld (by kernel_rfl) (by kernel_rfl) ?_
      simp only [Act.put, List.setIfInBounds_toArray, List.set_cons_zero, List.set_cons_succ]
      refine takeD (i := 10) (d := 26) (oi := _) (v := .bool false) (listed' := #[true, true, true, true, true, true, true, true, true, true, true, false, false, false, false, false, false, false, false, false, false, false, false, false]) rfl (by kernel_rfl) (by kernel_rfl) (by kernel_rfl) (fun _ _ _ h => h) (Or.inl ⟨by rfl, ?_⟩) hHeld (by kernel_rfl) (by kernel_rfl) ?_
      · intro w hSw
        try dsimp only at hSw
        first
          | (go_simp; done)
          | (go_simp; with_reducible rfl)
          | (go_simp; simp [hne])
          | (go_simp; simp)
      simp only [Act.put, List.setIfInBounds_toArray, List.set_cons_zero, List.set_cons_succ]
      refine takeD (i := 11) (d := 27) (oi := _) (v := .bool false) (listed' := #[true, true, true, true, true, true, true, true, true, true, true, true, false, false, false, false, false, false, false, false, false, false, false, false]) rfl (by kernel_rfl) (by kernel_rfl) (by kernel_rfl) (fun _ _ _ h => h) (Or.inl ⟨by rfl, ?_⟩) hHeld (by kernel_rfl) (by kernel_rfl) ?_
      · intro w hSw
        try dsimp only at hSw
        first
          | (go_simp; done)
          | (go_simp; with_reducible rfl)
          | (go_simp; simp [hne])
          | (go_simp; simp)
      simp only [Act.put, List.setIfInBounds_toArray, List.set_cons_zero, List.set_cons_succ]
      refine takeD (i := 12) (d := 28) (oi := _) (v := ?_) (listed' := #[true, true, true, true, true, true, true, true, true, true, true, true, true, false, false, false, false, false, false, false, false, false, false, false]) rfl (by kernel_rfl) (by kernel_rfl) (by kernel_rfl) (fun _ _ _ h => h) (Or.inl ⟨by rfl, ?_⟩) hHeld (by kernel_rfl) (by kernel_rfl) ?_
      rotate_left
      · intro w hSw
        try dsimp only at hSw
        first
          | (go_simp; done)
          | (go_simp; with_reducible rfl)
          | (go_simp; simp [hne])
          | (go_simp; simp)
      simp only [Act.put, List.setIfInBounds_toArray, List.set_cons_zero, List.set_cons_succ]
      refine takeD (i := 13) (d := 29) (oi := _) (v := .int .i64 5) (listed' := #[true, true, true, true, true, true, true, true, true, true, true, true, true, true, false, false, false, false, false, false, false, false, false, false]) rfl (by kernel_rfl) (by kernel_rfl) (by kernel_rfl) (fun _ _ _ h => h) (Or.inl ⟨by rfl, ?_⟩) hHeld (by kernel_rfl) (by kernel_rfl) ?_
      · intro w hSw
        try dsimp only at hSw
        first
          | (go_simp; done)
          | (go_simp; with_reducible rfl)
          | (go_simp; simp [hne])
          | (go_simp; simp)
      simp only [Act.put, List.setIfInBounds_toArray, List.set_cons_zero, List.set_cons_succ]
      refine takeD (i := 14) (d := 30) (oi := _) (v := .bool true) (listed' := #[true, true, true, true, true, true, true, true, true, true, true, true, true, true, true, false, false, false, false, false, false, false, false, false]) rfl (by kernel_rfl) (by kernel_rfl) (by kernel_rfl) (fun _ _ _ h => h) (Or.inl ⟨by rfl, ?_⟩) hHeld (by kernel_rfl) (by kernel_rfl) ?_
      · intro w hSw
        try dsimp only at hSw
        first
          | (go_simp; done)
          | (go_simp; with_reducible rfl)
          | (go_simp; simp [hne])
          | (go_simp; simp)
      simp only [Act.put, List.setIfInBounds_toArray, List.set_cons_zero, List.set_cons_succ]
      refine takeD (i := 15) (d := 31) (oi := _) (v := .bool true) (listed' := #[true, true, true, true, true, true, true, true, true, true, true, true, true, true, true, true, false, false, false, false, false, false, false, false]) rfl (by kernel_rfl) (by kernel_rfl) (by kernel_rfl) (fun _ _ _ h => h) (Or.inl ⟨by rfl, ?_⟩) hHeld (by kernel_rfl) (by kernel_rfl) ?_
      · intro w hSw
        try dsimp only at hSw
        first
          | (go_simp; done)
          | (go_simp; with_reducible rfl)
          | (go_simp; simp [hne])
          | (go_simp; simp)
      simp only [Act.put, List.setIfInBounds_toArray, List.set_cons_zero, List.set_cons_succ]
      refine takeD (i := 16) (d := 32) (oi := _) (v := ?_) (listed' := #[true, true, true, true, true, true, true, true, true, true, true, true, true, true, true, true, true, false, false, false, false, false, false, false]) rfl (by kernel_rfl) (by kernel_rfl) (by kernel_rfl) (fun _ _ _ h => h) (Or.inl ⟨by rfl, ?_⟩) hHeld (by kernel_rfl) (by kernel_rfl) ?_
      rotate_left
      · intro w hSw
        try dsimp only at hSw
        first
          | (go_simp; done)
          | (go_simp; with_reducible rfl)
          | (go_simp; simp [hne])
          | (go_simp; simp)
      simp only [Act.put, List.setIfInBounds_toArray, List.set_cons_zero, List.set_cons_succ]
      refine takeD (i := 19) (d := 35) (oi := _) (v := ?_) (listed' := #[true, true, true, true, true, true, true, true, true, true, true, true, true, true, true, true, true, false, false, true, false, false, false, false]) rfl (by kernel_rfl) (by kernel_rfl) (by kernel_rfl) (fun _ _ _ h => h) (Or.inl ⟨by rfl, ?_⟩) hHeld (by kernel_rfl) (by kernel_rfl) ?_
      rotate_left
      · intro w hSw
        try dsimp only at hSw
        first
          | (go_simp; done)
          | (go_simp; with_reducible rfl)
          | (go_simp; simp [hne])
          | (go_simp; simp)
      simp only [Act.put, List.setIfInBounds_toArray, List.set_cons_zero, List.set_cons_succ]
      refine takeD (i := 20) (d := 36) (oi := _) (v := .int .i64 5) (listed' := #[true, true, true, true, true, true, true, true, true, true, true, true, true, true, true, true, true, false, false, true, true, false, false, false]) rfl (by kernel_rfl) (by kernel_rfl) (by kernel_rfl) (fun _ _ _ h => h) (Or.inl ⟨by rfl, ?_⟩) hHeld (by kernel_rfl) (by kernel_rfl) ?_
      · intro w hSw
        try dsimp only at hSw
        first
          | (go_simp; done)
          | (go_simp; with_reducible rfl)
          | (go_simp; simp [hne])
          | (go_simp; simp)
      simp only [Act.put, List.setIfInBounds_toArray, List.set_cons_zero, List.set_cons_succ]
      refine wpAnyH_ready (rs := [17]) (by kernel_rfl) (by simp) ?_
      refine AllReadyH.cons (o := _) rfl (fun K' hK' => ?_) AllReadyH.nil
      go_simp
      refine (hF _).mono ?_
      rintro e wa ⟨v9, rfl, o9, ba⟩
      have R0 := zc ba r0
      have Bt1 : Below W3.heap.size W3 wa := BD.trans (ba.mono BD.size)
      refine hK'.out _ _ R0 (fun hS4 => ?_)
      clear hK' K'
      simp only [List.setIfInBounds_toArray, List.set_cons_zero, List.set_cons_succ]
      refine takeD (i := 18) (d := 34) (oi := _) (v := .int .i64 5) (listed' := #[true, true, true, true, true, true, true, true, true, true, true, true, true, true, true, true, true, true, true, true, true, false, false, false]) rfl (by kernel_rfl) (by kernel_rfl) (by kernel_rfl) (fun _ _ _ h => h) (Or.inl ⟨by rfl, ?_⟩) hS4 (by kernel_rfl) (by kernel_rfl) ?_
      · intro w hSw
        try dsimp only at hSw
        first
          | (go_simp; done)
          | (go_simp; with_reducible rfl)
          | (go_simp; simp [hne])
          | (go_simp; simp)
      simp only [Act.put, List.setIfInBounds_toArray, List.set_cons_zero, List.set_cons_succ]
      refine takeD (i := 21) (d := 37) (oi := _) (v := .bool false) (listed' := #[true, true, true, true, true, true, true, true, true, true, true, true, true, true, true, true, true, true, true, true, true, true, false, false]) rfl (by kernel_rfl) (by kernel_rfl) (by kernel_rfl) (fun _ _ _ h => h) (Or.inl ⟨by rfl, ?_⟩) hS4 (by kernel_rfl) (by kernel_rfl) ?_
      · intro w hSw
        try dsimp only at hSw
        first
          | (go_simp; done)
          | (go_simp; with_reducible rfl)
          | (go_simp; simp [hne])
          | (go_simp; simp)
      simp only [Act.put, List.setIfInBounds_toArray, List.set_cons_zero, List.set_cons_succ]
      refine takeD (i := 22) (d := 38) (oi := _) (v := .bool false) (listed' := #[true, true, true, true, true, true, true, true, true, true, true, true, true, true, true, true, true, true, true, true, true, true, true, false]) rfl (by kernel_rfl) (by kernel_rfl) (by kernel_rfl) (fun _ _ _ h => h) (Or.inl ⟨by rfl, ?_⟩) hS4 (by kernel_rfl) (by kernel_rfl) ?_
      · intro w hSw
        try dsimp only at hSw
        first
          | (go_simp; done)
          | (go_simp; with_reducible rfl)
          | (go_simp; simp [hne])
          | (go_simp; simp)
      simp only [Act.put, List.setIfInBounds_toArray, List.set_cons_zero, List.set_cons_succ]
      refine takeD (i := 23) (d := 39) (oi := _) (v := .bool false) (listed' := #[true, true, true, true, true, true, true, true, true, true, true, true, true, true, true, true, true, true, true, true, true, true, true, true]) rfl (by kernel_rfl) (by kernel_rfl) (by kernel_rfl) (fun _ _ _ h => h) (Or.inl ⟨by rfl, ?_⟩) hS4 (by kernel_rfl) (by kernel_rfl) ?_
      · intro w hSw
        try dsimp only at hSw
        first
          | (go_simp; done)
          | (go_simp; with_reducible rfl)
          | (go_simp; simp [hne])
          | (go_simp; simp)
      simp only [Act.put, List.setIfInBounds_toArray, List.set_cons_zero, List.set_cons_succ]
      refine wpAnyH_done (by kernel_rfl) ?_ _
      go_wp2_with fail
      go_meet
      exact ⟨rfl, Bt1⟩
  case rest =>
  obtain ⟨rfl, bc⟩ := hcut
  have B4 := B3.trans (bc.mono B3.size)
  clear bc B3 O3 hW3 hrb r0 r1 hST hIE
  go_wp2_with fail
  refine (drawDecodeCommit a n cap _ (hBt _ B4) hn).mono ?_; rintro e w5 ⟨s, rfl, hs, b5⟩
  have B5 := B4.trans (b5.mono B4.size)
  clear B4 b5
  go_wp2_with fail
  refine (hIC s hs _ B5).mono ?_; rintro e w6 ⟨v6, rfl, o6, b6⟩
  have B6 := B5.trans (b6.mono B5.size)
  obtain ⟨pa, pc, rfl, S6, hpc⟩ := ssOf o6 (dk_small s)
  clear o6 b6 B5
  obtain ⟨W7, hW7⟩ : ∃ W, w6.alloc (.cells #[.int .i64 (Dc.dcC s), .string (Dc.dcK s).1, .slice pa (Dc.dcK s).2.1.length pc, .int .i64 (Dc.dcK s).2.2.1, .string (Dc.dcK s).2.2.2] 36) = W := ⟨_, rfl⟩
  have d7 : Below w6.heap.size w6 W7 := by rw [← hW7]; exact allocBelow _ _
  have R7 : Rs W7 w6.heap.size [.int .i64 (Dc.dcC s), .string (Dc.dcK s).1, .slice pa (Dc.dcK s).2.1.length pc, .int .i64 (Dc.dcK s).2.2.1, .string (Dc.dcK s).2.2.2] := by rw [← hW7]; exact Rs.new _ _ _
  have B7 := B6.trans (d7.mono B6.size)
  have S7 := S6.below d7
  obtain ⟨rb, hrb⟩ : ∃ p, w6.heap.size = p := ⟨_, rfl⟩
  have r0 := R7 0 _ rfl
  have r1 := R7 1 _ rfl
  have r2 := R7 2 _ rfl
  have r3 := R7 3 _ rfl
  have r4 := R7 4 _ rfl
  rw [hrb] at r0 r1 r2 r3 r4
  have hln := dk_short s
  clear R7 S6 d7 B6
  go_upto_region 9 with fail
  go_cut [67] from 44 to 68 (fun s wx => s = .bool false ∧ Below W7.heap.size W7 wx)
  case first =>
    have BD : Below W7.heap.size W7 W7.drew := (Below.refl _ _).drew
    have SD : SS W7.drew pa (Dc.dcK s).2.1 := S7
    have BG : Below w.heap.size w W7.drew := B7.trans (BD.mono B7.size)
    rcases dc_code s with h0 | h0
    · have hb := ec_back h0
      have hF := fun W x b => hID (Dc.dcK s).1 pa pc (Dc.dcK s).2.1 (Dc.dcK s).2.2.1 (Dc.dcK s).2.2.2 W x hpc (by omega) b
      rw [hb] at hF
      rw [h0] at r0
      obtain ⟨x1, hx1⟩ : ∃ x, (Dc.dcK s).1 = x := ⟨_, rfl⟩
      obtain ⟨x2, hx2⟩ : ∃ x, (Dc.dcK s).2.1 = x := ⟨_, rfl⟩
      obtain ⟨x3, hx3⟩ : ∃ x, (Dc.dcK s).2.2.1 = x := ⟨_, rfl⟩
      obtain ⟨x4, hx4⟩ : ∃ x, (Dc.dcK s).2.2.2 = x := ⟨_, rfl⟩
      rw [hx1, hx2, hx3, hx4] at hF
      rw [hx2] at SD r2
      rw [hx1] at r1
      rw [hx3] at r3
      rw [hx4] at r4
      obtain ⟨K, hK⟩ : ∃ K, cmF x1 x2 x3 x4 = K := ⟨_, rfl⟩
      rw [hK] at hF
      have fl1 : ∀ W : World, (Instr.field 30 (.agg #[.int .i64 K, .string s]) 1).run Tryz.prog W = .ok (.string s) W := fun W => by kernel_rfl
      have hne := ne_self s
      clear hIC hID hSC hBt S7 B7 hW7 hrb hb h0 hx1 hx2 hx3 hx4 hK hln hpc
      refine wp_region_held_drew (S := (fun w' => w'.cell? ⟨rb, 0, none⟩ = some (.int .i64 0) ∧ w'.cell? ⟨rb, 1, none⟩ = some (.string x1) ∧ w'.cell? ⟨rb, 2, none⟩ = some (.slice pa x2.length pc) ∧ w'.cell? ⟨rb, 3, none⟩ = some (.int .i64 x3) ∧ w'.cell? ⟨rb, 4, none⟩ = some (.string x4))) (by kernel_rfl) ⟨r0, r1, r2, r3, r4⟩ (fun hHeld => ?_)
      refine takeD (i := 0) (d := 44) (oi := _) (v := ?_) (listed' := #[true, false, false, false, false, false, false, false, false, false, false, false, false, false, false, false, false, false, false, false, false, false, false, false]) rfl (by kernel_rfl) (by kernel_rfl) (by kernel_rfl) (fun _ _ _ h => h) (Or.inl ⟨by rfl, ?_⟩) hHeld (by kernel_rfl) (by kernel_rfl) ?_
      rotate_left
      · intro w hSw
        try dsimp only at hSw
        first
          | (go_simp; done)
          | (go_simp; with_reducible rfl)
          | (go_simp; simp [hne])
          | (go_simp; simp)
      simp only [Act.put, List.setIfInBounds_toArray, List.set_cons_zero, List.set_cons_succ]
      refine takeD (i := 1) (d := 45) (oi := _) (v := ?_) (listed' := #[true, true, false, false, false, false, false, false, false, false, false, false, false, false, false, false, false, false, false, false, false, false, false, false]) rfl (by kernel_rfl) (by kernel_rfl) (by kernel_rfl) (fun _ _ _ h => h) (Or.inl ⟨by rfl, ?_⟩) hHeld (by kernel_rfl) (by kernel_rfl) ?_
      rotate_left
      · intro w hSw
        try dsimp only at hSw
        first
          | (go_simp; done)
          | (go_simp; with_reducible rfl)
          | (go_simp; simp [hne])
          | (go_simp; simp)
      simp only [Act.put, List.setIfInBounds_toArray, List.set_cons_zero, List.set_cons_succ]
      refine takeD (i := 2) (d := 46) (oi := _) (v := .bool true) (listed' := #[true, true, true, false, false, false, false, false, false, false, false, false, false, false, false, false, false, false, false, false, false, false, false, false]) rfl (by kernel_rfl) (by kernel_rfl) (by kernel_rfl) (fun _ _ _ h => h) (Or.inl ⟨by rfl, ?_⟩) hHeld (by kernel_rfl) (by kernel_rfl) ?_
      · intro w hSw
        try dsimp only at hSw
        first
          | (go_simp; done)
          | (go_simp; with_reducible rfl)
          | (go_simp; simp [hne])
          | (go_simp; simp)
      simp only [Act.put, List.setIfInBounds_toArray, List.set_cons_zero, List.set_cons_succ]
      refine takeD (i := 3) (d := 47) (oi := _) (v := .bool true) (listed' := #[true, true, true, true, false, false, false, false, false, false, false, false, false, false, false, false, false, false, false, false, false, false, false, false]) rfl (by kernel_rfl) (by kernel_rfl) (by kernel_rfl) (fun _ _ _ h => h) (Or.inl ⟨by rfl, ?_⟩) hHeld (by kernel_rfl) (by kernel_rfl) ?_
      · intro w hSw
        try dsimp only at hSw
        first
          | (go_simp; done)
          | (go_simp; with_reducible rfl)
          | (go_simp; simp [hne])
          | (go_simp; simp)
      simp only [Act.put, List.setIfInBounds_toArray, List.set_cons_zero, List.set_cons_succ]
      refine takeD (i := 4) (d := 48) (oi := _) (v := ?_) (listed' := #[true, true, true, true, true, false, false, false, false, false, false, false, false, false, false, false, false, false, false, false, false, false, false, false]) rfl (by kernel_rfl) (by kernel_rfl) (by kernel_rfl) (fun _ _ _ h => h) (Or.inl ⟨by rfl, ?_⟩) hHeld (by kernel_rfl) (by kernel_rfl) ?_
      rotate_left
      · intro w hSw
        try dsimp only at hSw
        first
          | (go_simp; done)
          | (go_simp; with_reducible rfl)
          | (go_simp; simp [hne])
          | (go_simp; simp)
      simp only [Act.put, List.setIfInBounds_toArray, List.set_cons_zero, List.set_cons_succ]
      refine takeD (i := 5) (d := 49) (oi := _) (v := ?_) (listed' := #[true, true, true, true, true, true, false, false, false, false, false, false, false, false, false, false, false, false, false, false, false, false, false, false]) rfl (by kernel_rfl) (by kernel_rfl) (by kernel_rfl) (fun _ _ _ h => h) (Or.inl ⟨by rfl, ?_⟩) hHeld (by kernel_rfl) (by kernel_rfl) ?_
      rotate_left
      · intro w hSw
        try dsimp only at hSw
        first
          | (go_simp; done)
          | (go_simp; with_reducible rfl)
          | (go_simp; simp [hne])
          | (go_simp; simp)
      simp only [Act.put, List.setIfInBounds_toArray, List.set_cons_zero, List.set_cons_succ]
      refine takeD (i := 8) (d := 52) (oi := _) (v := ?_) (listed' := #[true, true, true, true, true, true, false, false, true, false, false, false, false, false, false, false, false, false, false, false, false, false, false, false]) rfl (by kernel_rfl) (by kernel_rfl) (by kernel_rfl) (fun _ _ _ h => h) (Or.inl ⟨by rfl, ?_⟩) hHeld (by kernel_rfl) (by kernel_rfl) ?_
      rotate_left
      · intro w hSw
        try dsimp only at hSw
        first
          | (go_simp; done)
          | (go_simp; with_reducible rfl)
          | (go_simp; simp [hne])
          | (go_simp; simp)
      simp only [Act.put, List.setIfInBounds_toArray, List.set_cons_zero, List.set_cons_succ]
      refine wpAnyH_ready (rs := [6]) (by kernel_rfl) (by simp) ?_
      refine AllReadyH.cons (o := _) rfl (fun K' hK' => ?_) AllReadyH.nil
      go_simp
      refine (hF _ SD BG).mono ?_
      rintro e wa ⟨rfl, ba⟩
      have R0 := zc ba r0
      have R1 := zc ba r1
      have R2 := zc ba r2
      have R3 := zc ba r3
      have R4 := zc ba r4
      have Bt1 : Below W7.heap.size W7 wa := BD.trans (ba.mono BD.size)
      refine hK'.out _ _ ⟨R0, R1, R2, R3, R4⟩ (fun hS4 => ?_)
      clear hK' K'
      simp only [List.setIfInBounds_toArray, List.set_cons_zero, List.set_cons_succ]
      refine takeD (i := 7) (d := 51) (oi := _) (v := ?_) (listed' := #[true, true, true, true, true, true, true, true, true, false, false, false, false, false, false, false, false, false, false, false, false, false, false, false]) rfl (by kernel_rfl) (by kernel_rfl) (by kernel_rfl) (fun _ _ _ h => h) (Or.inl ⟨by rfl, ?_⟩) hS4 (by kernel_rfl) (by kernel_rfl) ?_
      rotate_left
      · intro w hSw
        try dsimp only at hSw
        first
          | (go_simp; done)
          | (go_simp; with_reducible rfl)
          | (go_simp; simp [hne])
          | (go_simp; simp)
      simp only [Act.put, List.setIfInBounds_toArray, List.set_cons_zero, List.set_cons_succ]
      refine takeD (i := 9) (d := 53) (oi := _) (v := .bool false) (listed' := #[true, true, true, true, true, true, true, true, true, true, false, false, false, false, false, false, false, false, false, false, false, false, false, false]) rfl (by kernel_rfl) (by kernel_rfl) (by kernel_rfl) (fun _ _ _ h => h) (Or.inl ⟨by rfl, ?_⟩) hS4 (by kernel_rfl) (by kernel_rfl) ?_
      · intro w hSw
        try dsimp only at hSw
        first
          | (go_simp; done)
          | (go_simp; with_reducible rfl)
          | (go_simp; simp [hne])
          | (go_simp; simp)
      simp only [Act.put, List.setIfInBounds_toArray, List.set_cons_zero, List.set_cons_succ]
      refine takeD (i := 10) (d := 54) (oi := _) (v := .bool false) (listed' := #[true, true, true, true, true, true, true, true, true, true, true, false, false, false, false, false, false, false, false, false, false, false, false, false]) rfl (by kernel_rfl) (by kernel_rfl) (by kernel_rfl) (fun _ _ _ h => h) (Or.inl ⟨by rfl, ?_⟩) hS4 (by kernel_rfl) (by kernel_rfl) ?_
      · intro w hSw
        try dsimp only at hSw
        first
          | (go_simp; done)
          | (go_simp; with_reducible rfl)
          | (go_simp; simp [hne])
          | (go_simp; simp)
      simp only [Act.put, List.setIfInBounds_toArray, List.set_cons_zero, List.set_cons_succ]
      refine takeD (i := 11) (d := 55) (oi := _) (v := .bool false) (listed' := #[true, true, true, true, true, true, true, true, true, true, true, true, false, false, false, false, false, false, false, false, false, false, false, false]) rfl (by kernel_rfl) (by kernel_rfl) (by kernel_rfl) (fun _ _ _ h => h) (Or.inl ⟨by rfl, ?_⟩) hS4 (by kernel_rfl) (by kernel_rfl) ?_
      · intro w hSw
        try dsimp only at hSw
        first
          | (go_simp; done)
          | (go_simp; with_reducible rfl)
          | (go_simp; simp [hne])
          | (go_simp; simp)
      simp only [Act.put, List.setIfInBounds_toArray, List.set_cons_zero, List.set_cons_succ]
      refine takeD (i := 12) (d := 56) (oi := _) (v := ?_) (listed' := #[true, true, true, true, true, true, true, true, true, true, true, true, true, false, false, false, false, false, false, false, false, false, false, false]) rfl (by kernel_rfl) (by kernel_rfl) (by kernel_rfl) (fun _ _ _ h => h) (Or.inl ⟨by rfl, ?_⟩) hS4 (by kernel_rfl) (by kernel_rfl) ?_
      rotate_left
      · intro w hSw
        try dsimp only at hSw
        first
          | (go_simp; done)
          | (go_simp; with_reducible rfl)
          | (go_simp; simp [hne])
          | (go_simp; simp)
      simp only [Act.put, List.setIfInBounds_toArray, List.set_cons_zero, List.set_cons_succ]
      refine takeD (i := 13) (d := 57) (oi := _) (v := .int .i64 0) (listed' := #[true, true, true, true, true, true, true, true, true, true, true, true, true, true, false, false, false, false, false, false, false, false, false, false]) rfl (by kernel_rfl) (by kernel_rfl) (by kernel_rfl) (fun _ _ _ h => h) (Or.inl ⟨by rfl, ?_⟩) hS4 (by kernel_rfl) (by kernel_rfl) ?_
      · intro w hSw
        try dsimp only at hSw
        first
          | (go_simp; done)
          | (go_simp; with_reducible rfl)
          | (go_simp; simp [hne])
          | (go_simp; simp)
      simp only [Act.put, List.setIfInBounds_toArray, List.set_cons_zero, List.set_cons_succ]
      refine takeD (i := 14) (d := 58) (oi := _) (v := .bool false) (listed' := #[true, true, true, true, true, true, true, true, true, true, true, true, true, true, true, false, false, false, false, false, false, false, false, false]) rfl (by kernel_rfl) (by kernel_rfl) (by kernel_rfl) (fun _ _ _ h => h) (Or.inl ⟨by rfl, ?_⟩) hS4 (by kernel_rfl) (by kernel_rfl) ?_
      · intro w hSw
        try dsimp only at hSw
        first
          | (go_simp; done)
          | (go_simp; with_reducible rfl)
          | (go_simp; simp [hne])
          | (go_simp; simp)
      simp only [Act.put, List.setIfInBounds_toArray, List.set_cons_zero, List.set_cons_succ]
      refine takeD (i := 15) (d := 59) (oi := _) (v := .bool false) (listed' := #[true, true, true, true, true, true, true, true, true, true, true, true, true, true, true, true, false, false, false, false, false, false, false, false]) rfl (by kernel_rfl) (by kernel_rfl) (by kernel_rfl) (fun _ _ _ h => h) (Or.inl ⟨by rfl, ?_⟩) hS4 (by kernel_rfl) (by kernel_rfl) ?_
      · intro w hSw
        try dsimp only at hSw
        first
          | (go_simp; done)
          | (go_simp; with_reducible rfl)
          | (go_simp; simp [hne])
          | (go_simp; simp)
      simp only [Act.put, List.setIfInBounds_toArray, List.set_cons_zero, List.set_cons_succ]
      refine takeD (i := 16) (d := 60) (oi := _) (v := undef) (listed' := #[true, true, true, true, true, true, true, true, true, true, true, true, true, true, true, true, true, false, false, false, false, false, false, false]) rfl (by kernel_rfl) (by kernel_rfl) (by kernel_rfl) (fun _ _ _ h => h) (Or.inr ⟨by rfl, rfl⟩) hS4 (by kernel_rfl) (by kernel_rfl) ?_
      simp only [Act.put, List.setIfInBounds_toArray, List.set_cons_zero, List.set_cons_succ]
      refine takeD (i := 17) (d := 61) (oi := _) (v := undef) (listed' := #[true, true, true, true, true, true, true, true, true, true, true, true, true, true, true, true, true, true, false, false, false, false, false, false]) rfl (by kernel_rfl) (by kernel_rfl) (by kernel_rfl) (fun _ _ _ h => h) (Or.inr ⟨by rfl, rfl⟩) hS4 (by kernel_rfl) (by kernel_rfl) ?_
      simp only [Act.put, List.setIfInBounds_toArray, List.set_cons_zero, List.set_cons_succ]
      refine takeD (i := 18) (d := 62) (oi := _) (v := undef) (listed' := #[true, true, true, true, true, true, true, true, true, true, true, true, true, true, true, true, true, true, true, false, false, false, false, false]) rfl (by kernel_rfl) (by kernel_rfl) (by kernel_rfl) (fun _ _ _ h => h) (Or.inr ⟨by rfl, rfl⟩) hS4 (by kernel_rfl) (by kernel_rfl) ?_
      simp only [Act.put, List.setIfInBounds_toArray, List.set_cons_zero, List.set_cons_succ]
      refine takeD (i := 19) (d := 63) (oi := _) (v := undef) (listed' := #[true, true, true, true, true, true, true, true, true, true, true, true, true, true, true, true, true, true, true, true, false, false, false, false]) rfl (by kernel_rfl) (by kernel_rfl) (by kernel_rfl) (fun _ _ _ h => h) (Or.inr ⟨by rfl, rfl⟩) hS4 (by kernel_rfl) (by kernel_rfl) ?_
      simp only [Act.put, List.setIfInBounds_toArray, List.set_cons_zero, List.set_cons_succ]
      refine takeD (i := 20) (d := 64) (oi := _) (v := undef) (listed' := #[true, true, true, true, true, true, true, true, true, true, true, true, true, true, true, true, true, true, true, true, true, false, false, false]) rfl (by kernel_rfl) (by kernel_rfl) (by kernel_rfl) (fun _ _ _ h => h) (Or.inr ⟨by rfl, rfl⟩) hS4 (by kernel_rfl) (by kernel_rfl) ?_
      simp only [Act.put, List.setIfInBounds_toArray, List.set_cons_zero, List.set_cons_succ]
      refine takeD (i := 21) (d := 65) (oi := _) (v := undef) (listed' := #[true, true, true, true, true, true, true, true, true, true, true, true, true, true, true, true, true, true, true, true, true, true, false, false]) rfl (by kernel_rfl) (by kernel_rfl) (by kernel_rfl) (fun _ _ _ h => h) (Or.inr ⟨by rfl, rfl⟩) hS4 (by kernel_rfl) (by kernel_rfl) ?_
      simp only [Act.put, List.setIfInBounds_toArray, List.set_cons_zero, List.set_cons_succ]
      refine takeD (i := 22) (d := 66) (oi := _) (v := .bool false) (listed' := #[true, true, true, true, true, true, true, true, true, true, true, true, true, true, true, true, true, true, true, true, true, true, true, false]) rfl (by kernel_rfl) (by kernel_rfl) (by kernel_rfl) (fun _ _ _ h => h) (Or.inl ⟨by rfl, ?_⟩) hS4 (by kernel_rfl) (by kernel_rfl) ?_
      · intro w hSw
        try dsimp only at hSw
        first
          | (go_simp; done)
          | (go_simp; with_reducible rfl)
          | (go_simp; simp [hne])
          | (go_simp; simp)
      simp only [Act.put, List.setIfInBounds_toArray, List.set_cons_zero, List.set_cons_succ]
      refine takeD (i := 23) (d := 67) (oi := _) (v := .bool false) (listed' := #[true, true, true, true, true, true, true, true, true, true, true, true, true, true, true, true, true, true, true, true, true, true, true, true]) rfl (by kernel_rfl) (by kernel_rfl) (by kernel_rfl) (fun _ _ _ h => h) (Or.inl ⟨by rfl, ?_⟩) hS4 (by kernel_rfl) (by kernel_rfl) ?_
      · intro w hSw
        try dsimp only at hSw
        first
          | (go_simp; done)
          | (go_simp; with_reducible rfl)
          | (go_simp; simp [hne])
          | (go_simp; simp)
      simp only [Act.put, List.setIfInBounds_toArray, List.set_cons_zero, List.set_cons_succ]
      refine wpAnyH_done (by kernel_rfl) ?_ _
      go_wp2_with fail
      go_meet
      exact ⟨rfl, Bt1⟩
    · have hF := hSC s hs
      rw [h0] at r0
      have fl1 : ∀ (x1 : ByteArray) (v : Value) (x3 : Int) (x4 : ByteArray) (W : World), (Instr.field 36 (.agg #[.int .i64 5, .string x1, v, .int .i64 x3, .string x4]) 0).run Tryz.prog W = .ok (.int .i64 5) W := fun x1 v x3 x4 W => by kernel_rfl
      unfold Dc.DC at hF
      rw [h0] at hF
      clear hIC hID hSC hBt S7 B7 hW7 hrb h0 hln SD r1 r2 r3 r4
      refine wp_region_held_drew (S := (fun w' => w'.cell? ⟨rb, 0, none⟩ = some (.int .i64 5))) (by kernel_rfl) r0 (fun hHeld => ?_)
      refine takeD (i := 0) (d := 44) (oi := _) (v := ?_) (listed' := #[true, false, false, false, false, false, false, false, false, false, false, false, false, false, false, false, false, false, false, false, false, false, false, false]) rfl (by kernel_rfl) (by kernel_rfl) (by kernel_rfl) (fun _ _ _ h => h) (Or.inl ⟨by rfl, ?_⟩) hHeld (by kernel_rfl) (by kernel_rfl) ?_
      rotate_left
      · intro w hSw
        try dsimp only at hSw
        first
          | (go_simp; done)
          | (go_simp; with_reducible rfl)
          | (go_simp; simp [hne])
          | (go_simp; simp)
      simp only [Act.put, List.setIfInBounds_toArray, List.set_cons_zero, List.set_cons_succ]
      refine takeD (i := 1) (d := 45) (oi := _) (v := ?_) (listed' := #[true, true, false, false, false, false, false, false, false, false, false, false, false, false, false, false, false, false, false, false, false, false, false, false]) rfl (by kernel_rfl) (by kernel_rfl) (by kernel_rfl) (fun _ _ _ h => h) (Or.inl ⟨by rfl, ?_⟩) hHeld (by kernel_rfl) (by kernel_rfl) ?_
      rotate_left
      · intro w hSw
        try dsimp only at hSw
        first
          | (go_simp; done)
          | (go_simp; with_reducible rfl)
          | (go_simp; simp [hne])
          | (go_simp; simp)
      simp only [Act.put, List.setIfInBounds_toArray, List.set_cons_zero, List.set_cons_succ]
      refine takeD (i := 2) (d := 46) (oi := _) (v := .bool false) (listed' := #[true, true, true, false, false, false, false, false, false, false, false, false, false, false, false, false, false, false, false, false, false, false, false, false]) rfl (by kernel_rfl) (by kernel_rfl) (by kernel_rfl) (fun _ _ _ h => h) (Or.inl ⟨by rfl, ?_⟩) hHeld (by kernel_rfl) (by kernel_rfl) ?_
      · intro w hSw
        try dsimp only at hSw
        first
          | (go_simp; done)
          | (go_simp; with_reducible rfl)
          | (go_simp; simp [hne])
          | (go_simp; simp)
      simp only [Act.put, List.setIfInBounds_toArray, List.set_cons_zero, List.set_cons_succ]
      refine takeD (i := 3) (d := 47) (oi := _) (v := .bool false) (listed' := #[true, true, true, true, false, false, false, false, false, false, false, false, false, false, false, false, false, false, false, false, false, false, false, false]) rfl (by kernel_rfl) (by kernel_rfl) (by kernel_rfl) (fun _ _ _ h => h) (Or.inl ⟨by rfl, ?_⟩) hHeld (by kernel_rfl) (by kernel_rfl) ?_
      · intro w hSw
        try dsimp only at hSw
        first
          | (go_simp; done)
          | (go_simp; with_reducible rfl)
          | (go_simp; simp [hne])
          | (go_simp; simp)
      simp only [Act.put, List.setIfInBounds_toArray, List.set_cons_zero, List.set_cons_succ]
      refine takeD (i := 4) (d := 48) (oi := _) (v := undef) (listed' := #[true, true, true, true, true, false, false, false, false, false, false, false, false, false, false, false, false, false, false, false, false, false, false, false]) rfl (by kernel_rfl) (by kernel_rfl) (by kernel_rfl) (fun _ _ _ h => h) (Or.inr ⟨by rfl, rfl⟩) hHeld (by kernel_rfl) (by kernel_rfl) ?_
      simp only [Act.put, List.setIfInBounds_toArray, List.set_cons_zero, List.set_cons_succ]
      refine takeD (i := 5) (d := 49) (oi := _) (v := undef) (listed' := #[true, true, true, true, true, true, false, false, false, false, false, false, false, false, false, false, false, false, false, false, false, false, false, false]) rfl (by kernel_rfl) (by kernel_rfl) (by kernel_rfl) (fun _ _ _ h => h) (Or.inr ⟨by rfl, rfl⟩) hHeld (by kernel_rfl) (by kernel_rfl) ?_
      simp only [Act.put, List.setIfInBounds_toArray, List.set_cons_zero, List.set_cons_succ]
      refine takeD (i := 6) (d := 50) (oi := _) (v := undef) (listed' := #[true, true, true, true, true, true, true, false, false, false, false, false, false, false, false, false, false, false, false, false, false, false, false, false]) rfl (by kernel_rfl) (by kernel_rfl) (by kernel_rfl) (fun _ _ _ h => h) (Or.inr ⟨by rfl, rfl⟩) hHeld (by kernel_rfl) (by kernel_rfl) ?_
      simp only [Act.put, List.setIfInBounds_toArray, List.set_cons_zero, List.set_cons_succ]
      refine takeD (i := 7) (d := 51) (oi := _) (v := undef) (listed' := #[true, true, true, true, true, true, true, true, false, false, false, false, false, false, false, false, false, false, false, false, false, false, false, false]) rfl (by kernel_rfl) (by kernel_rfl) (by kernel_rfl) (fun _ _ _ h => h) (Or.inr ⟨by rfl, rfl⟩) hHeld (by kernel_rfl) (by kernel_rfl) ?_
      simp only [Act.put, List.setIfInBounds_toArray, List.set_cons_zero, List.set_cons_succ]
      refine takeD (i := 8) (d := 52) (oi := _) (v := undef) (listed' := #[true, true, true, true, true, true, true, true, true, false, false, false, false, false, false, false, false, false, false, false, false, false, false, false]) rfl (by kernel_rfl) (by kernel_rfl) (by kernel_rfl) (fun _ _ _ h => h) (Or.inr ⟨by rfl, rfl⟩) hHeld (by kernel_rfl) (by kernel_rfl) ?_
      simp only [Act.put, List.setIfInBounds_toArray, List.set_cons_zero, List.set_cons_succ]
      refine takeD (i := 9) (d := 53) (oi := _) (v := undef) (listed' := #[true, true, true, true, true, true, true, true, true, true, false, false, false, false, false, false, false, false, false, false, false, false, false, false]) rfl (by kernel_rfl) (by kernel_rfl) (by kernel_rfl) (fun _ _ _ h => h) (Or.inr ⟨by rfl, rfl⟩) hHeld (by kernel_rfl) (by kernel_rfl) ?_
      simp only [Act.put, List.setIfInBounds_toArray, List.set_cons_zero, List.set_cons_succ]
      refine takeD (i := 10) (d := 54) (oi := _) (v := .bool false) (listed' := #[true, true, true, true, true, true, true, true, true, true, true, false, false, false, false, false, false, false, false, false, false, false, false, false]) rfl (by kernel_rfl) (by kernel_rfl) (by kernel_rfl) (fun _ _ _ h => h) (Or.inl ⟨by rfl, ?_⟩) hHeld (by kernel_rfl) (by kernel_rfl) ?_
      · intro w hSw
        try dsimp only at hSw
        first
          | (go_simp; done)
          | (go_simp; with_reducible rfl)
          | (go_simp; simp [hne])
          | (go_simp; simp)
      simp only [Act.put, List.setIfInBounds_toArray, List.set_cons_zero, List.set_cons_succ]
      refine takeD (i := 11) (d := 55) (oi := _) (v := .bool false) (listed' := #[true, true, true, true, true, true, true, true, true, true, true, true, false, false, false, false, false, false, false, false, false, false, false, false]) rfl (by kernel_rfl) (by kernel_rfl) (by kernel_rfl) (fun _ _ _ h => h) (Or.inl ⟨by rfl, ?_⟩) hHeld (by kernel_rfl) (by kernel_rfl) ?_
      · intro w hSw
        try dsimp only at hSw
        first
          | (go_simp; done)
          | (go_simp; with_reducible rfl)
          | (go_simp; simp [hne])
          | (go_simp; simp)
      simp only [Act.put, List.setIfInBounds_toArray, List.set_cons_zero, List.set_cons_succ]
      refine takeD (i := 12) (d := 56) (oi := _) (v := ?_) (listed' := #[true, true, true, true, true, true, true, true, true, true, true, true, true, false, false, false, false, false, false, false, false, false, false, false]) rfl (by kernel_rfl) (by kernel_rfl) (by kernel_rfl) (fun _ _ _ h => h) (Or.inl ⟨by rfl, ?_⟩) hHeld (by kernel_rfl) (by kernel_rfl) ?_
      rotate_left
      · intro w hSw
        try dsimp only at hSw
        first
          | (go_simp; done)
          | (go_simp; with_reducible rfl)
          | (go_simp; simp [hne])
          | (go_simp; simp)
      simp only [Act.put, List.setIfInBounds_toArray, List.set_cons_zero, List.set_cons_succ]
      refine takeD (i := 13) (d := 57) (oi := _) (v := .int .i64 5) (listed' := #[true, true, true, true, true, true, true, true, true, true, true, true, true, true, false, false, false, false, false, false, false, false, false, false]) rfl (by kernel_rfl) (by kernel_rfl) (by kernel_rfl) (fun _ _ _ h => h) (Or.inl ⟨by rfl, ?_⟩) hHeld (by kernel_rfl) (by kernel_rfl) ?_
      · intro w hSw
        try dsimp only at hSw
        first
          | (go_simp; done)
          | (go_simp; with_reducible rfl)
          | (go_simp; simp [hne])
          | (go_simp; simp)
      simp only [Act.put, List.setIfInBounds_toArray, List.set_cons_zero, List.set_cons_succ]
      refine takeD (i := 14) (d := 58) (oi := _) (v := .bool true) (listed' := #[true, true, true, true, true, true, true, true, true, true, true, true, true, true, true, false, false, false, false, false, false, false, false, false]) rfl (by kernel_rfl) (by kernel_rfl) (by kernel_rfl) (fun _ _ _ h => h) (Or.inl ⟨by rfl, ?_⟩) hHeld (by kernel_rfl) (by kernel_rfl) ?_
      · intro w hSw
        try dsimp only at hSw
        first
          | (go_simp; done)
          | (go_simp; with_reducible rfl)
          | (go_simp; simp [hne])
          | (go_simp; simp)
      simp only [Act.put, List.setIfInBounds_toArray, List.set_cons_zero, List.set_cons_succ]
      refine takeD (i := 15) (d := 59) (oi := _) (v := .bool true) (listed' := #[true, true, true, true, true, true, true, true, true, true, true, true, true, true, true, true, false, false, false, false, false, false, false, false]) rfl (by kernel_rfl) (by kernel_rfl) (by kernel_rfl) (fun _ _ _ h => h) (Or.inl ⟨by rfl, ?_⟩) hHeld (by kernel_rfl) (by kernel_rfl) ?_
      · intro w hSw
        try dsimp only at hSw
        first
          | (go_simp; done)
          | (go_simp; with_reducible rfl)
          | (go_simp; simp [hne])
          | (go_simp; simp)
      simp only [Act.put, List.setIfInBounds_toArray, List.set_cons_zero, List.set_cons_succ]
      refine takeD (i := 16) (d := 60) (oi := _) (v := ?_) (listed' := #[true, true, true, true, true, true, true, true, true, true, true, true, true, true, true, true, true, false, false, false, false, false, false, false]) rfl (by kernel_rfl) (by kernel_rfl) (by kernel_rfl) (fun _ _ _ h => h) (Or.inl ⟨by rfl, ?_⟩) hHeld (by kernel_rfl) (by kernel_rfl) ?_
      rotate_left
      · intro w hSw
        try dsimp only at hSw
        first
          | (go_simp; done)
          | (go_simp; with_reducible rfl)
          | (go_simp; simp [hne])
          | (go_simp; simp)
      simp only [Act.put, List.setIfInBounds_toArray, List.set_cons_zero, List.set_cons_succ]
      refine takeD (i := 19) (d := 63) (oi := _) (v := ?_) (listed' := #[true, true, true, true, true, true, true, true, true, true, true, true, true, true, true, true, true, false, false, true, false, false, false, false]) rfl (by kernel_rfl) (by kernel_rfl) (by kernel_rfl) (fun _ _ _ h => h) (Or.inl ⟨by rfl, ?_⟩) hHeld (by kernel_rfl) (by kernel_rfl) ?_
      rotate_left
      · intro w hSw
        try dsimp only at hSw
        first
          | (go_simp; done)
          | (go_simp; with_reducible rfl)
          | (go_simp; simp [hne])
          | (go_simp; simp)
      simp only [Act.put, List.setIfInBounds_toArray, List.set_cons_zero, List.set_cons_succ]
      refine takeD (i := 20) (d := 64) (oi := _) (v := .int .i64 5) (listed' := #[true, true, true, true, true, true, true, true, true, true, true, true, true, true, true, true, true, false, false, true, true, false, false, false]) rfl (by kernel_rfl) (by kernel_rfl) (by kernel_rfl) (fun _ _ _ h => h) (Or.inl ⟨by rfl, ?_⟩) hHeld (by kernel_rfl) (by kernel_rfl) ?_
      · intro w hSw
        try dsimp only at hSw
        first
          | (go_simp; done)
          | (go_simp; with_reducible rfl)
          | (go_simp; simp [hne])
          | (go_simp; simp)
      simp only [Act.put, List.setIfInBounds_toArray, List.set_cons_zero, List.set_cons_succ]
      refine wpAnyH_ready (rs := [17]) (by kernel_rfl) (by simp) ?_
      refine AllReadyH.cons (o := _) rfl (fun K' hK' => ?_) AllReadyH.nil
      go_simp
      refine (hF _).mono ?_
      rintro e wa ⟨v9, rfl, o9, ba⟩
      have R0 := zc ba r0
      have Bt1 : Below W7.heap.size W7 wa := BD.trans (ba.mono BD.size)
      refine hK'.out _ _ R0 (fun hS4 => ?_)
      clear hK' K'
      simp only [List.setIfInBounds_toArray, List.set_cons_zero, List.set_cons_succ]
      refine takeD (i := 18) (d := 62) (oi := _) (v := .int .i64 5) (listed' := #[true, true, true, true, true, true, true, true, true, true, true, true, true, true, true, true, true, true, true, true, true, false, false, false]) rfl (by kernel_rfl) (by kernel_rfl) (by kernel_rfl) (fun _ _ _ h => h) (Or.inl ⟨by rfl, ?_⟩) hS4 (by kernel_rfl) (by kernel_rfl) ?_
      · intro w hSw
        try dsimp only at hSw
        first
          | (go_simp; done)
          | (go_simp; with_reducible rfl)
          | (go_simp; simp [hne])
          | (go_simp; simp)
      simp only [Act.put, List.setIfInBounds_toArray, List.set_cons_zero, List.set_cons_succ]
      refine takeD (i := 21) (d := 65) (oi := _) (v := .bool false) (listed' := #[true, true, true, true, true, true, true, true, true, true, true, true, true, true, true, true, true, true, true, true, true, true, false, false]) rfl (by kernel_rfl) (by kernel_rfl) (by kernel_rfl) (fun _ _ _ h => h) (Or.inl ⟨by rfl, ?_⟩) hS4 (by kernel_rfl) (by kernel_rfl) ?_
      · intro w hSw
        try dsimp only at hSw
        first
          | (go_simp; done)
          | (go_simp; with_reducible rfl)
          | (go_simp; simp [hne])
          | (go_simp; simp)
      simp only [Act.put, List.setIfInBounds_toArray, List.set_cons_zero, List.set_cons_succ]
      refine takeD (i := 22) (d := 66) (oi := _) (v := .bool false) (listed' := #[true, true, true, true, true, true, true, true, true, true, true, true, true, true, true, true, true, true, true, true, true, true, true, false]) rfl (by kernel_rfl) (by kernel_rfl) (by kernel_rfl) (fun _ _ _ h => h) (Or.inl ⟨by rfl, ?_⟩) hS4 (by kernel_rfl) (by kernel_rfl) ?_
      · intro w hSw
        try dsimp only at hSw
        first
          | (go_simp; done)
          | (go_simp; with_reducible rfl)
          | (go_simp; simp [hne])
          | (go_simp; simp)
      simp only [Act.put, List.setIfInBounds_toArray, List.set_cons_zero, List.set_cons_succ]
      refine takeD (i := 23) (d := 67) (oi := _) (v := .bool false) (listed' := #[true, true, true, true, true, true, true, true, true, true, true, true, true, true, true, true, true, true, true, true, true, true, true, true]) rfl (by kernel_rfl) (by kernel_rfl) (by kernel_rfl) (fun _ _ _ h => h) (Or.inl ⟨by rfl, ?_⟩) hS4 (by kernel_rfl) (by kernel_rfl) ?_
      · intro w hSw
        try dsimp only at hSw
        first
          | (go_simp; done)
          | (go_simp; with_reducible rfl)
          | (go_simp; simp [hne])
          | (go_simp; simp)
      simp only [Act.put, List.setIfInBounds_toArray, List.set_cons_zero, List.set_cons_succ]
      refine wpAnyH_done (by kernel_rfl) ?_ _
      go_wp2_with fail
      go_meet
      exact ⟨rfl, Bt1⟩
  case rest =>
  obtain ⟨rfl, bc⟩ := hcut
  have B8 := B7.trans (bc.mono B7.size)
  clear bc B7 S7 hW7 hrb r0 r1 r2 r3 r4 hSC hln hpc
  go_wp2_with fail
  refine (drawEncodeCommit a n cap _ (hBt _ B8) hn).mono ?_; rintro e w9 ⟨t9, av, cv, ps, tm, no, rfl, hl9, hc9, S9, b9⟩
  have B9 := B8.trans (b9.mono B8.size)
  clear b9 B8 hBt
  obtain ⟨V1, hV1⟩ : ∃ W, w9.alloc (.cells #[.string t9, .slice av ps.length cv, .int .i64 tm, .string no] 34) = W := ⟨_, rfl⟩
  have d1 : Below w9.heap.size w9 V1 := by rw [← hV1]; exact allocBelow _ _
  have Q1 : Rs V1 w9.heap.size [.string t9, .slice av ps.length cv, .int .i64 tm, .string no] := by rw [← hV1]; exact Rs.new _ _ _
  have E1 := B9.trans (d1.mono B9.size)
  have T1 := S9.below d1
  obtain ⟨cb, hcb⟩ : ∃ p, w9.heap.size = p := ⟨_, rfl⟩
  have c0 := Q1 0 _ rfl
  have c1 := Q1 1 _ rfl
  have c2 := Q1 2 _ rfl
  have c3 := Q1 3 _ rfl
  rw [hcb] at c0 c1 c2 c3
  clear Q1 d1 S9 B9
  go_wp2_with fail
  refine (hID t9 av cv ps tm no _ T1 hc9 (by omega) E1).mono ?_; rintro e w10 ⟨rfl, b10⟩
  have E2 := E1.trans (b10.mono E1.size)
  have T2 := T1.below b10
  replace c0 := zc b10 c0
  replace c1 := zc b10 c1
  replace c2 := zc b10 c2
  replace c3 := zc b10 c3
  clear b10 T1 E1 hID hV1
  obtain ⟨V3, hV3⟩ : ∃ W, w10.alloc (.cells #[.int .i64 (cmF t9 ps tm no), .string (Cm.ecT t9 ps tm no)] 30) = W := ⟨_, rfl⟩
  have d3 : Below w10.heap.size w10 V3 := by rw [← hV3]; exact allocBelow _ _
  have Q3 : Rs V3 w10.heap.size [.int .i64 (cmF t9 ps tm no), .string (Cm.ecT t9 ps tm no)] := by rw [← hV3]; exact Rs.new _ _ _
  have E3 := E2.trans (d3.mono E2.size)
  have T3 := T2.below d3
  replace c0 := zc d3 c0
  replace c1 := zc d3 c1
  replace c2 := zc d3 c2
  replace c3 := zc d3 c3
  obtain ⟨tb, htb⟩ : ∃ p, w10.heap.size = p := ⟨_, rfl⟩
  have u0 := Q3 0 _ rfl
  have u1 := Q3 1 _ rfl
  rw [htb] at u0 u1
  clear Q3 d3 T2 E2
  by_cases h0 : cmF t9 ps tm no = 0
  · obtain ⟨k1, k2⟩ := dc_back h0
    have hsz := ec_short t9 ps tm no
    rw [h0] at u0 hV3 ⊢
    obtain ⟨X, hX⟩ : ∃ X, Cm.ecT t9 ps tm no = X := ⟨_, rfl⟩
    rw [hX] at k1 k2 hsz u1 hV3 ⊢
    have hF := hIC X (by omega) _ E3
    unfold Dc.DC at hF
    rw [k1, k2] at hF
    have hsm := dk_small X
    rw [k2] at hsm
    have hq1 : (t9.toList == t9.toList) = true := beq_bytes_true rfl
    have hq2 : (no.toList == no.toList) = true := beq_bytes_true rfl
    have hq3 : (tm == tm) = true := by simp
    have hqE : Hid (eqB ps ps = true) := by show _ = _; simp [eqB]
    simp only at hF hsm
    clear hX h0 k1 k2 hIC
    go_wp2_with fail
    refine hF.mono ?_; rintro e w11 ⟨v11, rfl, o11, b11⟩
    obtain ⟨pa, pc, rfl, S11, _⟩ := ssOf o11 hsm
    have E4 := E3.trans (b11.mono E3.size)
    have T4 := T3.below b11
    replace c0 := zc b11 c0
    replace c1 := zc b11 c1
    replace c2 := zc b11 c2
    replace c3 := zc b11 c3
    clear hF o11 b11 E3 T3 hV3 hsm
    obtain ⟨V5, hV5⟩ : ∃ W, w11.alloc (.cells #[.int .i64 0, .string t9, .slice pa ps.length pc, .int .i64 tm, .string no] 36) = W := ⟨_, rfl⟩
    have d5 : Below w11.heap.size w11 V5 := by rw [← hV5]; exact allocBelow _ _
    have Q5 : Rs V5 w11.heap.size [.int .i64 0, .string t9, .slice pa ps.length pc, .int .i64 tm, .string no] := by rw [← hV5]; exact Rs.new _ _ _
    have E5 := E4.trans (d5.mono E4.size)
    have T5 := T4.below d5
    have S5 := S11.below d5
    replace c0 := zc d5 c0
    replace c1 := zc d5 c1
    replace c2 := zc d5 c2
    replace c3 := zc d5 c3
    obtain ⟨kb, hkb⟩ : ∃ p, w11.heap.size = p := ⟨_, rfl⟩
    have x0 := Q5 0 _ rfl
    have x1 := Q5 1 _ rfl
    have x2 := Q5 2 _ rfl
    have x3 := Q5 3 _ rfl
    have x4 := Q5 4 _ rfl
    rw [hkb] at x0 x1 x2 x3 x4
    have hSL := Same.implSameLines pa av pc cv ps ps V5 S5 T5 (by omega) (by omega)
    rw [hqE.out] at hSL
    clear Q5 d5 S11 T4 E4 S5 T5 hqE
    go_wp2_with fail
    refine hSL.mono ?_; rintro e w13 ⟨rfl, nq, rfl⟩
    go_wp2_with fail
    go_ret
    exact ⟨rfl, below_drewN' E5 _⟩
  · have qn : (cmF t9 ps tm no != 0) = true := by simpa using h0
    have hF := fun W x => specCommitFault t9 av cv ps tm no W x (by omega)
    obtain ⟨K, hK⟩ : ∃ K, cmF t9 ps tm no = K := ⟨_, rfl⟩
    rw [hK] at hF u0 qn hV3 ⊢
    have kk : (K == K) = true := by simp
    have BD : Below V3.heap.size V3 V3.drew := (Below.refl _ _).drew
    have SD : SS V3.drew av ps := T3
    clear hK h0 hIC
    go_upto_region 14 with fail
    go_cut [2] from 75 to 80 (fun s wx => s = .bool true ∧ Below V3.heap.size V3 wx)
    case first =>
      clear E3 T3 hV3 htb
      go_region_held (fun w' => w'.cell? ⟨cb, 0, none⟩ = some (.string t9) ∧ w'.cell? ⟨cb, 1, none⟩ = some (.slice av ps.length cv) ∧ w'.cell? ⟨cb, 2, none⟩ = some (.int .i64 tm) ∧ w'.cell? ⟨cb, 3, none⟩ = some (.string no) ∧ w'.cell? ⟨tb, 0, none⟩ = some (.int .i64 K)) (first | with_reducible exact ⟨c0, c1, c2, c3, u0⟩ | with_reducible exact ⟨C0, C1, C2, C3, U0⟩ | exact ⟨c0, c1, c2, c3, u0⟩)
        ((go_at_call 14; refine (hF _ SD).mono ?_; rintro e wa ⟨rfl, ba⟩; have C0 := zc ba c0; have C1 := zc ba c1; have C2 := zc ba c2; have C3 := zc ba c3; have U0 := zc ba u0; have Bt1 : Below V3.heap.size V3 wa := BD.trans (ba.mono BD.size)))
      all_goals (go_wp2_with fail; go_meet; exact ⟨rfl, Bt1⟩)
    case rest =>
    obtain ⟨rfl, bc⟩ := hcut
    have BE := E3.trans (bc.mono E3.size)
    clear bc E3
    go_wp2_with fail
    go_ret
    exact ⟨rfl, BE⟩

set_option linter.unusedVariables false
theorem laidOut : laidOutB Tryz.prog = true := by kernel_rfl
theorem two_vars {H : Type} {enc : TypeId × Value → H} {P : Program} {W : World} {sp : Nat → Bool} {x y : String} {q : List MemPlace} : ∀ {gs : List (DataW H)}, DataW.TrodVars enc P W sp [x, y] gs q → ∃ g1 g2, gs = [g1, g2]
  | [], h => by simp [DataW.TrodVars] at h
  | [_], h => by simp [DataW.TrodVars] at h
  | [a, b], _ => ⟨a, b, rfl⟩
  | _ :: _ :: _ :: _, h => by simp [DataW.TrodVars] at h
theorem own : ownKnob Tryz.prog.godebug = none := by kernel_rfl
set_option maxRecDepth 100000 in
theorem lifted (os : Os) (started : os.Started) (H : Type) (enc : TypeId × Value → H) :
    ReturnsInHanded {} Tryz.checked os 3 .any (fun w args => (Rows.fnObjectsSpec.pre enc Tryz.prog Tryz.f3 [] false w args ∧ laidMetH Tryz.prog Rows.fnObjectsRow.laid w) ∧ sizedMet enc Tryz.prog Tryz.f3 (OpenSpec.ofChange Rows.fnObjectsSpec) false w args)
      (Rows.fnObjectsSpec.post enc Tryz.prog Tryz.f3 false true false false) := by
  refine returnsInHanded_of_change_and (C := Tryz.checked) (X := fun w _ => laidMetH Tryz.prog Rows.fnObjectsRow.laid w) (fun _ _ _ hh h => h.of_heap hh) own started (by kernel_rfl) Tryz.func3
    (ChangeSpec.witness_shaped (enc := enc) (C := Tryz.checked) (os := os) (X := fun w _ => laidMetH Tryz.prog Rows.fnObjectsRow.laid w) false (World.doorLaid Tryz.prog 400 os) #[.slice none 0 0] 8 rfl (World.shaped_of_RefB (by kernel_rfl) (by kernel_rfl)) (by kernel_rfl) (by kernel_rfl) (by kernel_rfl) (fo_met os _)) ?_
  intro W base args ds gs before hval0 hW _ _ hL _
  have hval : ∀ (j : Nat) t v, Tryz.f3.params[j]? = some t → args[j]? = some v → Value.okWide Tryz.prog W .any base t v := hval0
  have hW' := hW
  obtain ⟨p, q, hA0, hV0, rfl, hfz, hnd⟩ := hW
  have hA : DataW.TrodAll enc Tryz.prog W 0 (fun _ => true) true Tryz.f3.params.toList args.toList ds p := hA0
  have hV : DataW.TrodVars enc Tryz.prog W (fun _ => true) ["loop.example/g00172/impl.modeWords", "loop.example/g00172/impl.errOtherForm"] gs q := hV0
  rw [Tryz.params3] at hA hval
  obtain ⟨v0, vs0, d0, ds0, p0, q0, hargs, rfl, rfl, h0, r0⟩ := trodAll_cons hA
  obtain ⟨rfl, rfl, rfl⟩ := trodAll_nil r0
  obtain rfl : args = #[v0] := by cases args; simp_all
  obtain ⟨a0, len0, cap0, rfl⟩ := okWide_slice Tryz.underlying22 (hval 0 22 v0 rfl rfl)
  have k0 := h0
  have lt0 : ∀ x ∈ p0, x.block < W.heap.size := by obtain ⟨m, hm⟩ := k0; exact DataW.trod_lt m _ _ _ hm
  obtain ⟨w0, n0⟩ := openBts h0 lt0
  obtain ⟨hMw, hTa, hOf, hPe, hEr⟩ := fo_laid hL
  obtain ⟨g1, g2, hg12⟩ : ∃ g1 g2, gs = [g1, g2] := two_vars hV
  subst hg12
  clear hA0 hval0
  refine (walk a0 len0 cap0 W w0 n0 hMw (cellLt hMw.1) hTa (Cm.cellLtTa hTa) hOf (by obtain ⟨_, _, h⟩ := hOf; exact cellLt h) hPe (by obtain ⟨⟨_, _, h⟩, _⟩ := hPe; exact cellLt h) (by obtain ⟨_, ⟨_, _, h⟩⟩ := hPe; exact cellLt h) hEr).mono fun e W' ⟨he, bel⟩ => ?_
  subst he
  exact ⟨_, rfl, _, _, _, [], _, _, hW', trodAll_mk1 (shut_bool Tryz.underlying4 _), (trodAll_cons_mk (Below.trod laidOut (by kernel_rfl) (of_decide_eq_true (by kernel_rfl)) k0 bel lt0) trodAll_mk0), Below.trodVars laidOut bel (by kernel_rfl) hV, bel.frame _, fun h => by cases h⟩

theorem over : Rows.fnObjectsRow.holds Tryz.pinned (OpenSpec.ofChange Rows.fnObjectsSpec) :=
  OpenClaim.holds_of_wide 3 Tryz.f3 rfl rfl rfl rfl rfl rfl rfl ⟨rfl, rfl, rfl, rfl, rfl⟩ rfl rfl rfl rfl rfl (by kernel_rfl) Tryz.func3 (by kernel_rfl)
    (of_decide_eq_true (by kernel_rfl)) (by unfold Func.isWrapper; first | (rw [if_pos (by decide +kernel)]; kernel_rfl) | (rw [if_neg (by decide +kernel)]; exact ⟨rfl, rfl⟩))
    (fun os started H enc _ => lifted os started H enc)

theorem proved : Rows.FnObjectsCardSaid :=
  Claim7.holds_tied_plain_at .later [] [.data, .data, .data, .handle, .sentinel, .sentinel, .data, .sentinel] true _ true
    over (fun _ h => by cases h) (by kernel_rfl) (fun _ h => by cases h) fnObjects_row_tie rfl ⟨rfl, rfl⟩ (by kernel_rfl) rfl
    (fun f fn hf hfn => by
      obtain rfl : f = 3 := Option.some.inj ((show Tryz.prog.funcNamed "loop.example/g00172/laws.FnObjects" = some 3 by kernel_rfl).symm.trans hf) |>.symm
      obtain rfl : fn = Tryz.f3 := (Option.some.inj (Tryz.func3.symm.trans hfn)).symm
      exact ⟨by kernel_rfl, fun j t ht => by
        rw [Tryz.params3] at ht
        have hm : t ∈ [22] := by simpa using Array.mem_of_getElem? ht
        have hall : ([22].all fun u => !Tryz.prog.wantsStandIn u) = true := by kernel_rfl
        exact (show Tryz.prog.wantsStandIn t = false by simpa using List.all_eq_true.1 hall t hm)⟩)
    (by kernel_rfl)
end Go.Proofs.YtijphomojljckaaGreatDoor.FoF
namespace Go.Proofs.YtijphomojljckaaGreatDoor
theorem fnObjects_proved : Rows.FnObjectsCardSaid := FoF.proved
end Go.Proofs.YtijphomojljckaaGreatDoor
