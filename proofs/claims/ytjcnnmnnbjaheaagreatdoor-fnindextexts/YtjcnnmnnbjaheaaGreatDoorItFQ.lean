/- Proved: at every []byte FnIndexTexts returns true (a text of an index that is read and written is what was read, and what fails fails in the specification too; an index that is written and read is what was written). Its condition: the laid variables hold what the row says (the tied card FnIndexTextsCardSaid). -/
import Derived.Test.YtjcnnmnnbjaheaaGreatDoorRows
import Derived.Test.YtjcnnmnnbjaheaaGreatDoorLemQ
import Derived.Test.YtjcnnmnnbjaheaaGreatDoorLFLemQ
import Derived.Test.YtjcnnmnnbjaheaaGreatDoorDTabQ
import Derived.Test.YtjcnnmnnbjaheaaGreatDoorHkTQ
import Derived.Test.YtjcnnmnnbjaheaaGreatDoorFlLQ
import Derived.Test.YtjcnnmnnbjaheaaGreatDoorIxMQ
import Derived.Test.YtjcnnmnnbjaheaaGreatDoorIxNQ
import Derived.Test.YtjcnnmnnbjaheaaGreatDoorSgCQ
import Derived.Test.YtjcnnmnnbjaheaaGreatDoorIxIQ
import Derived.Test.YtjcnnmnnbjaheaaGreatDoorIxSQ
import Derived.Test.YtjcnnmnnbjaheaaGreatDoorTrWQ
import Derived.Test.YtjcnnmnnbjaheaaGreatDoorXtCQ
import Derived.Test.YtjcnnmnnbjaheaaGreatDoorXtSQ
import Derived.Test.YtjcnnmnnbjaheaaGreatDoorXtFQ
import Derived.Test.YtjcnnmnnbjaheaaGreatDoorPiMQ
import Derived.Test.YtjcnnmnnbjaheaaGreatDoorDcTQ
import Derived.Test.YtjcnnmnnbjaheaaGreatDoorPiUQ
import Derived.Test.YtjcnnmnnbjaheaaGreatDoorPiIQ
import Derived.Test.YtjcnnmnnbjaheaaGreatDoorPiLQ
import Derived.Test.YtjcnnmnnbjaheaaGreatDoorDrawQ
import Derived.Test.YtjcnnmnnbjaheaaGreatDoorDraw30Q
import Derived.Test.YtjcnnmnnbjaheaaGreatDoorDraw33Q
import Derived.Test.YtjcnnmnnbjaheaaGreatDoorTie
import Derived.Test.YtjcnnmnnbjaheaaGreatDoorCards
import Derived.WalkKit
import Derived.ProofKit
import Derived.OpenShut
import Derived.Below
import Derived.Carry
import Derived.ChangeVars
import Derived.OpenVars
import Derived.LaidMore
import Derived.Lay
import Derived.SevenTiedAt
import Derived.Stop.Joined
import Derived.JoinedOf
import Derived.WalkSpells
import Derived.Deep.QuietTactic
import Derived.BigQuiet
import Derived.Deep.RegionWith
import Derived.Deep.RegionHeld
import Derived.Deep.Cut
import Derived.Deep.CutRange
import Derived.Maps.AppendAt
namespace Go.Proofs.YtjcnnmnnbjaheaaGreatDoor.ItF
open Go.ChangeShapes Go.WideShapes Go.ChangeAt Go.RowKit
open Go.Proofs.YtjcnnmnnbjaheaaGreatDoor.En
set_option linter.unusedVariables false
theorem takeD {P : Program} {md : Region.Mode} {ops : Array Oper} {Q : Exit → Act → World → Prop} {S : World → Prop} {i d : Nat} {oi : Oper} {v : Value} {fuel : Nat} {listed listed' : Array Bool} {a : Act} {w : World} (hi : ops[i]? = some oi)
    (hs : Region.noSelect ops = true) (hf : Region.free md ops listed i = true) (hr : (Region.ready md ops listed).contains i = true)
    (hQ : ∀ c a w, Q (.panic c) (a.put oi.dst v) w → Q (.panic c) a w) (hy : YieldsIf P ops S oi v a) (hS : S w) (hd : oi.dst = some d) (hl : listed.setIfInBounds i true = listed')
    (h : wpAnyH P md ops Q S fuel listed' (a.put (some d) v) w) : wpAnyH P md ops Q S (fuel + 1) listed a w := by
  subst hl
  exact wpAnyH_take hi hs hf hr hQ hy hS (by rw [hd]; exact h)
theorem lwBig (a : Option Addr) (n cap : Nat) (w : World) : Calls Tryz.prog 5 #[.slice a n cap] w fun e w' => e = .returned (.bool (decide ((1048576 : Int) < (n : Int)))) ∧ w' = w := by
  go_enter Tryz.func5, Tryz.ntmps5
  go_wp2
  go_ret
  exact ⟨rfl, rfl⟩
theorem ne_self (s : ByteArray) : (s.toList != s.toList) = false := by simp
theorem pe_small {s : ByteArray} (h : s.size ≤ 1048576) : SmallO (pE s) ∧ (pE s).length ≤ 1048576 := by
  have h1 := pA_small h
  have h2 := pA_len s
  unfold pE
  split
  · exact ⟨h1, by omega⟩
  · exact ⟨fun o ho => (List.not_mem_nil ho).elim, by simp⟩
theorem xt_back {s : ByteArray} (h : pC s = 0) : xT (pE s) = s := by
  obtain ⟨h1, h2⟩ := p_zero h
  rw [xT_ok h1, h2]
set_option maxRecDepth 20000 in
set_option maxHeartbeats 16000000 in
theorem walk (a : Option Addr) (n cap : Nat) (w : World) (h : Bts w a n) (hm : n ≤ 9223372036854775807) (hMw : Te.MwG w) (hM0 : 0 < w.heap.size) (hTa : TaG w) (hT0 : 1 < w.heap.size) :
    Calls Tryz.prog 3 #[.slice a n cap] w fun e w' => e = .returned (.bool true) ∧ Below w.heap.size w w' := by
  by_cases hbig : (1048576 : Int) < (n : Int)
  · go_enter Tryz.func3, Tryz.ntmps3
    go_wp2_with (go_at_call 5; refine (lwBig _ _ _ _).mono ?_; rintro e w' ⟨rfl, rfl⟩)
    go_ret
    exact ⟨rfl, Below.refl _ _⟩
  have hn : n ≤ 1048576 := by omega
  have hPI := fun s (hs : s.size ≤ 1048576) W (b : Below w.heap.size w W) => implParseIndex s W hs (hMw.below b hM0) (Nat.lt_of_lt_of_le hM0 b.size) (hTa.below b hT0) (Nat.lt_of_lt_of_le hT0 b.size)
  have hFI := fun (aa : Option Addr) (c : Nat) (l : List Ob) W (hh : OB W.heap.size W aa l) (hs : SmallO l) (hl : l.length ≤ 1048576) (b : Below w.heap.size w W) => implFormatIndex aa c l W hh hs hl (hMw.below b hM0) (Nat.lt_of_lt_of_le hM0 b.size) (hTa.below b hT0) (Nat.lt_of_lt_of_le hT0 b.size)
  have hBt : ∀ W, Below w.heap.size w W → Bts W a n := fun W b => h.below b
  have hDF := fun W (x : Bts W a n) => drawFormatIndex a n cap W x (by omega)
  clear hMw hM0 hTa hT0 hm
  go_enter Tryz.func3, Tryz.ntmps3
  go_wp2_with fail
  refine (lwBig _ _ _ _).mono ?_; rintro e w ⟨rfl, rfl⟩
  go_wp2_with fail
  refine (drawParseIndex a n cap _ h (by omega)).mono ?_; rintro e w1 ⟨s, rfl, hs, b1⟩
  clear h hbig
  have hz1 := b1.size
  obtain ⟨hSm, hLn⟩ := pe_small (s := s) (by omega)
  have hBack := xt_back (s := s)
  have hSp := fun W => specParseIndex s W (by omega)
  go_wp2_with fail
  refine (hPI s (by omega) _ b1).mono ?_; rintro e w2 ⟨vR, rfl, oR, b2⟩
  obtain ⟨ra, rc, rfl⟩ := shapeK3 oR
  unfold EP at hSp
  obtain ⟨R, hR⟩ : ∃ R, pE s = R := ⟨_, rfl⟩
  obtain ⟨C, hC⟩ : ∃ C, pC s = C := ⟨_, rfl⟩
  obtain ⟨T, hT⟩ : ∃ T, pAt s = T := ⟨_, rfl⟩
  rw [hR] at oR hSm hLn hBack
  rw [hC] at hBack
  simp only [hR, hC, hT] at hSp ⊢
  obtain ⟨p, hp⟩ : ∃ p, w2.heap.size = p := ⟨_, rfl⟩
  obtain ⟨W3, hW3⟩ : ∃ W, w2.alloc (.cells #[.int .i64 C, .int .i64 T, .slice ra R.length rc] 27) = W := ⟨_, rfl⟩
  have b3 : Below p w2 W3 := by rw [← hW3, ← hp]; exact allocBelow _ _
  have B3 : Below w.heap.size w W3 := (b1.trans (b2.mono hz1)).trans (b3.mono (by have := b2.size; omega))
  have r3 : Rf W3 p [.int .i64 C, .int .i64 T, .slice ra R.length rc] := by rw [← hW3, ← hp]; exact Rf.new _ #[.int .i64 C, .int .i64 T, .slice ra R.length rc] _
  have z3 : p < W3.heap.size := by rw [← hW3, ← hp]; simp
  have o3 := oR.kept (grown_of_below (hp ▸ b3 : Below w2.heap.size w2 W3) none) (by cases ra <;> simp [Value.ownBlock])
  have hHz := B3.size
  have OB3 : OB W3.heap.size W3 ra R := OB.of o3
  have c0 := r3.at_ 0 _ rfl
  have c2 := r3.at_ 2 _ rfl
  clear hR hC hT b2 b3 oR o3 b1 hz1
  go_upto_region 5 with fail
  go_cut [37] from 14 to 38 (fun s wx => s = .bool false ∧ Below w.heap.size w wx)
  case first =>
    have BD : Below W3.heap.size W3 W3.drew := (Below.refl _ _).drew
    have OD : OB W3.drew.heap.size W3.drew ra R := OB3
    have BG : Below w.heap.size w W3.drew := B3.trans (BD.mono B3.size)
    have zD : p < W3.drew.heap.size := z3
    have d0 : W3.drew.cell? ⟨p, 0, none⟩ = some (.int .i64 C) := c0
    have d2 : W3.drew.cell? ⟨p, 2, none⟩ = some (.slice ra R.length rc) := c2
    by_cases h0 : C = 0
    · have hb := hBack h0
      have hF := fun W x b => hFI ra rc R W x hSm hLn b
      rw [hb] at hF
      obtain ⟨K, hK⟩ : ∃ K, ixf R = K := ⟨_, rfl⟩
      simp only [hK] at hF
      subst h0
      have fl1 : ∀ W : World, (Instr.field 30 (.agg #[.int .i64 K, .string s]) 1).run Tryz.prog W = .ok (.string s) W := fun W => by kernel_rfl
      have hne := ne_self s
      clear hPI hFI hBt hDF hSp hBack OB3 B3 hK hb hW3 r3
      refine wp_region_held_drew (S := fun u => u.cell? ⟨p, 0, none⟩ = some (.int .i64 0) ∧ u.cell? ⟨p, 2, none⟩ = some (.slice ra R.length rc)) (by kernel_rfl) ⟨d0, d2⟩ (fun hHeld => ?_)
      refine takeD (i := 0) (d := 14) (oi := _) (v := ?_) (listed' := #[true, false, false, false, false, false, false, false, false, false, false, false, false, false, false, false, false, false, false, false, false, false, false, false]) rfl (by kernel_rfl) (by kernel_rfl) (by kernel_rfl) (fun _ _ _ h => h) (Or.inl ⟨by rfl, ?_⟩) hHeld (by kernel_rfl) (by kernel_rfl) ?_
      rotate_left
      · intro w hSw
        try dsimp only at hSw
        first
          | (go_simp; done)
          | (go_simp; with_reducible rfl)
          | (go_simp; simp [hne])
          | (go_simp; simp)
      simp only [Act.put, List.setIfInBounds_toArray, List.set_cons_zero, List.set_cons_succ]
      refine takeD (i := 1) (d := 15) (oi := _) (v := ?_) (listed' := #[true, true, false, false, false, false, false, false, false, false, false, false, false, false, false, false, false, false, false, false, false, false, false, false]) rfl (by kernel_rfl) (by kernel_rfl) (by kernel_rfl) (fun _ _ _ h => h) (Or.inl ⟨by rfl, ?_⟩) hHeld (by kernel_rfl) (by kernel_rfl) ?_
      rotate_left
      · intro w hSw
        try dsimp only at hSw
        first
          | (go_simp; done)
          | (go_simp; with_reducible rfl)
          | (go_simp; simp [hne])
          | (go_simp; simp)
      simp only [Act.put, List.setIfInBounds_toArray, List.set_cons_zero, List.set_cons_succ]
      refine takeD (i := 2) (d := 16) (oi := _) (v := .bool true) (listed' := #[true, true, true, false, false, false, false, false, false, false, false, false, false, false, false, false, false, false, false, false, false, false, false, false]) rfl (by kernel_rfl) (by kernel_rfl) (by kernel_rfl) (fun _ _ _ h => h) (Or.inl ⟨by rfl, ?_⟩) hHeld (by kernel_rfl) (by kernel_rfl) ?_
      · intro w hSw
        try dsimp only at hSw
        first
          | (go_simp; done)
          | (go_simp; with_reducible rfl)
          | (go_simp; simp [hne])
          | (go_simp; simp)
      simp only [Act.put, List.setIfInBounds_toArray, List.set_cons_zero, List.set_cons_succ]
      refine takeD (i := 3) (d := 17) (oi := _) (v := .bool true) (listed' := #[true, true, true, true, false, false, false, false, false, false, false, false, false, false, false, false, false, false, false, false, false, false, false, false]) rfl (by kernel_rfl) (by kernel_rfl) (by kernel_rfl) (fun _ _ _ h => h) (Or.inl ⟨by rfl, ?_⟩) hHeld (by kernel_rfl) (by kernel_rfl) ?_
      · intro w hSw
        try dsimp only at hSw
        first
          | (go_simp; done)
          | (go_simp; with_reducible rfl)
          | (go_simp; simp [hne])
          | (go_simp; simp)
      simp only [Act.put, List.setIfInBounds_toArray, List.set_cons_zero, List.set_cons_succ]
      refine takeD (i := 4) (d := 18) (oi := _) (v := ?_) (listed' := #[true, true, true, true, true, false, false, false, false, false, false, false, false, false, false, false, false, false, false, false, false, false, false, false]) rfl (by kernel_rfl) (by kernel_rfl) (by kernel_rfl) (fun _ _ _ h => h) (Or.inl ⟨by rfl, ?_⟩) hHeld (by kernel_rfl) (by kernel_rfl) ?_
      rotate_left
      · intro w hSw
        try dsimp only at hSw
        first
          | (go_simp; done)
          | (go_simp; with_reducible rfl)
          | (go_simp; simp [hne])
          | (go_simp; simp)
      simp only [Act.put, List.setIfInBounds_toArray, List.set_cons_zero, List.set_cons_succ]
      refine takeD (i := 5) (d := 19) (oi := _) (v := ?_) (listed' := #[true, true, true, true, true, true, false, false, false, false, false, false, false, false, false, false, false, false, false, false, false, false, false, false]) rfl (by kernel_rfl) (by kernel_rfl) (by kernel_rfl) (fun _ _ _ h => h) (Or.inl ⟨by rfl, ?_⟩) hHeld (by kernel_rfl) (by kernel_rfl) ?_
      rotate_left
      · intro w hSw
        try dsimp only at hSw
        first
          | (go_simp; done)
          | (go_simp; with_reducible rfl)
          | (go_simp; simp [hne])
          | (go_simp; simp)
      simp only [Act.put, List.setIfInBounds_toArray, List.set_cons_zero, List.set_cons_succ]
      refine takeD (i := 8) (d := 22) (oi := _) (v := ?_) (listed' := #[true, true, true, true, true, true, false, false, true, false, false, false, false, false, false, false, false, false, false, false, false, false, false, false]) rfl (by kernel_rfl) (by kernel_rfl) (by kernel_rfl) (fun _ _ _ h => h) (Or.inl ⟨by rfl, ?_⟩) hHeld (by kernel_rfl) (by kernel_rfl) ?_
      rotate_left
      · intro w hSw
        try dsimp only at hSw
        first
          | (go_simp; done)
          | (go_simp; with_reducible rfl)
          | (go_simp; simp [hne])
          | (go_simp; simp)
      simp only [Act.put, List.setIfInBounds_toArray, List.set_cons_zero, List.set_cons_succ]
      refine wpAnyH_ready (rs := [6]) (by kernel_rfl) (by simp) ?_
      refine AllReadyH.cons (o := _) rfl (fun K' hK' => ?_) AllReadyH.nil
      go_simp
      refine (hF _ OD BG).mono ?_
      rintro e wb ⟨rfl, bb⟩
      have Bt1 : Below w.heap.size w wb := BG.trans (bb.mono BG.size)
      have k0 := (bb.cell (p := ⟨p, 0, none⟩) zD).trans d0
      have k2 := (bb.cell (p := ⟨p, 2, none⟩) zD).trans d2
      refine hK'.out _ _ ⟨k0, k2⟩ (fun hS4 => ?_)
      clear hK' K'
      simp only [List.setIfInBounds_toArray, List.set_cons_zero, List.set_cons_succ]
      refine takeD (i := 7) (d := 21) (oi := _) (v := ?_) (listed' := #[true, true, true, true, true, true, true, true, true, false, false, false, false, false, false, false, false, false, false, false, false, false, false, false]) rfl (by kernel_rfl) (by kernel_rfl) (by kernel_rfl) (fun _ _ _ h => h) (Or.inl ⟨by rfl, ?_⟩) hS4 (by kernel_rfl) (by kernel_rfl) ?_
      rotate_left
      · intro w hSw
        try dsimp only at hSw
        first
          | (go_simp; done)
          | (go_simp; with_reducible rfl)
          | (go_simp; simp [hne])
          | (go_simp; simp)
      simp only [Act.put, List.setIfInBounds_toArray, List.set_cons_zero, List.set_cons_succ]
      refine takeD (i := 9) (d := 23) (oi := _) (v := .bool false) (listed' := #[true, true, true, true, true, true, true, true, true, true, false, false, false, false, false, false, false, false, false, false, false, false, false, false]) rfl (by kernel_rfl) (by kernel_rfl) (by kernel_rfl) (fun _ _ _ h => h) (Or.inl ⟨by rfl, ?_⟩) hS4 (by kernel_rfl) (by kernel_rfl) ?_
      · intro w hSw
        try dsimp only at hSw
        first
          | (go_simp; done)
          | (go_simp; with_reducible rfl)
          | (go_simp; simp [hne])
          | (go_simp; simp)
      simp only [Act.put, List.setIfInBounds_toArray, List.set_cons_zero, List.set_cons_succ]
      refine takeD (i := 10) (d := 24) (oi := _) (v := .bool false) (listed' := #[true, true, true, true, true, true, true, true, true, true, true, false, false, false, false, false, false, false, false, false, false, false, false, false]) rfl (by kernel_rfl) (by kernel_rfl) (by kernel_rfl) (fun _ _ _ h => h) (Or.inl ⟨by rfl, ?_⟩) hS4 (by kernel_rfl) (by kernel_rfl) ?_
      · intro w hSw
        try dsimp only at hSw
        first
          | (go_simp; done)
          | (go_simp; with_reducible rfl)
          | (go_simp; simp [hne])
          | (go_simp; simp)
      simp only [Act.put, List.setIfInBounds_toArray, List.set_cons_zero, List.set_cons_succ]
      refine takeD (i := 11) (d := 25) (oi := _) (v := .bool false) (listed' := #[true, true, true, true, true, true, true, true, true, true, true, true, false, false, false, false, false, false, false, false, false, false, false, false]) rfl (by kernel_rfl) (by kernel_rfl) (by kernel_rfl) (fun _ _ _ h => h) (Or.inl ⟨by rfl, ?_⟩) hS4 (by kernel_rfl) (by kernel_rfl) ?_
      · intro w hSw
        try dsimp only at hSw
        first
          | (go_simp; done)
          | (go_simp; with_reducible rfl)
          | (go_simp; simp [hne])
          | (go_simp; simp)
      simp only [Act.put, List.setIfInBounds_toArray, List.set_cons_zero, List.set_cons_succ]
      refine takeD (i := 12) (d := 26) (oi := _) (v := ?_) (listed' := #[true, true, true, true, true, true, true, true, true, true, true, true, true, false, false, false, false, false, false, false, false, false, false, false]) rfl (by kernel_rfl) (by kernel_rfl) (by kernel_rfl) (fun _ _ _ h => h) (Or.inl ⟨by rfl, ?_⟩) hS4 (by kernel_rfl) (by kernel_rfl) ?_
      rotate_left
      · intro w hSw
        try dsimp only at hSw
        first
          | (go_simp; done)
          | (go_simp; with_reducible rfl)
          | (go_simp; simp [hne])
          | (go_simp; simp)
      simp only [Act.put, List.setIfInBounds_toArray, List.set_cons_zero, List.set_cons_succ]
      refine takeD (i := 13) (d := 27) (oi := _) (v := .int .i64 0) (listed' := #[true, true, true, true, true, true, true, true, true, true, true, true, true, true, false, false, false, false, false, false, false, false, false, false]) rfl (by kernel_rfl) (by kernel_rfl) (by kernel_rfl) (fun _ _ _ h => h) (Or.inl ⟨by rfl, ?_⟩) hS4 (by kernel_rfl) (by kernel_rfl) ?_
      · intro w hSw
        try dsimp only at hSw
        first
          | (go_simp; done)
          | (go_simp; with_reducible rfl)
          | (go_simp; simp [hne])
          | (go_simp; simp)
      simp only [Act.put, List.setIfInBounds_toArray, List.set_cons_zero, List.set_cons_succ]
      refine takeD (i := 14) (d := 28) (oi := _) (v := .bool false) (listed' := #[true, true, true, true, true, true, true, true, true, true, true, true, true, true, true, false, false, false, false, false, false, false, false, false]) rfl (by kernel_rfl) (by kernel_rfl) (by kernel_rfl) (fun _ _ _ h => h) (Or.inl ⟨by rfl, ?_⟩) hS4 (by kernel_rfl) (by kernel_rfl) ?_
      · intro w hSw
        try dsimp only at hSw
        first
          | (go_simp; done)
          | (go_simp; with_reducible rfl)
          | (go_simp; simp [hne])
          | (go_simp; simp)
      simp only [Act.put, List.setIfInBounds_toArray, List.set_cons_zero, List.set_cons_succ]
      refine takeD (i := 15) (d := 29) (oi := _) (v := .bool false) (listed' := #[true, true, true, true, true, true, true, true, true, true, true, true, true, true, true, true, false, false, false, false, false, false, false, false]) rfl (by kernel_rfl) (by kernel_rfl) (by kernel_rfl) (fun _ _ _ h => h) (Or.inl ⟨by rfl, ?_⟩) hS4 (by kernel_rfl) (by kernel_rfl) ?_
      · intro w hSw
        try dsimp only at hSw
        first
          | (go_simp; done)
          | (go_simp; with_reducible rfl)
          | (go_simp; simp [hne])
          | (go_simp; simp)
      simp only [Act.put, List.setIfInBounds_toArray, List.set_cons_zero, List.set_cons_succ]
      refine takeD (i := 16) (d := 30) (oi := _) (v := undef) (listed' := #[true, true, true, true, true, true, true, true, true, true, true, true, true, true, true, true, true, false, false, false, false, false, false, false]) rfl (by kernel_rfl) (by kernel_rfl) (by kernel_rfl) (fun _ _ _ h => h) (Or.inr ⟨by rfl, rfl⟩) hS4 (by kernel_rfl) (by kernel_rfl) ?_
      simp only [Act.put, List.setIfInBounds_toArray, List.set_cons_zero, List.set_cons_succ]
      refine takeD (i := 17) (d := 31) (oi := _) (v := undef) (listed' := #[true, true, true, true, true, true, true, true, true, true, true, true, true, true, true, true, true, true, false, false, false, false, false, false]) rfl (by kernel_rfl) (by kernel_rfl) (by kernel_rfl) (fun _ _ _ h => h) (Or.inr ⟨by rfl, rfl⟩) hS4 (by kernel_rfl) (by kernel_rfl) ?_
      simp only [Act.put, List.setIfInBounds_toArray, List.set_cons_zero, List.set_cons_succ]
      refine takeD (i := 18) (d := 32) (oi := _) (v := undef) (listed' := #[true, true, true, true, true, true, true, true, true, true, true, true, true, true, true, true, true, true, true, false, false, false, false, false]) rfl (by kernel_rfl) (by kernel_rfl) (by kernel_rfl) (fun _ _ _ h => h) (Or.inr ⟨by rfl, rfl⟩) hS4 (by kernel_rfl) (by kernel_rfl) ?_
      simp only [Act.put, List.setIfInBounds_toArray, List.set_cons_zero, List.set_cons_succ]
      refine takeD (i := 19) (d := 33) (oi := _) (v := undef) (listed' := #[true, true, true, true, true, true, true, true, true, true, true, true, true, true, true, true, true, true, true, true, false, false, false, false]) rfl (by kernel_rfl) (by kernel_rfl) (by kernel_rfl) (fun _ _ _ h => h) (Or.inr ⟨by rfl, rfl⟩) hS4 (by kernel_rfl) (by kernel_rfl) ?_
      simp only [Act.put, List.setIfInBounds_toArray, List.set_cons_zero, List.set_cons_succ]
      refine takeD (i := 20) (d := 34) (oi := _) (v := undef) (listed' := #[true, true, true, true, true, true, true, true, true, true, true, true, true, true, true, true, true, true, true, true, true, false, false, false]) rfl (by kernel_rfl) (by kernel_rfl) (by kernel_rfl) (fun _ _ _ h => h) (Or.inr ⟨by rfl, rfl⟩) hS4 (by kernel_rfl) (by kernel_rfl) ?_
      simp only [Act.put, List.setIfInBounds_toArray, List.set_cons_zero, List.set_cons_succ]
      refine takeD (i := 21) (d := 35) (oi := _) (v := undef) (listed' := #[true, true, true, true, true, true, true, true, true, true, true, true, true, true, true, true, true, true, true, true, true, true, false, false]) rfl (by kernel_rfl) (by kernel_rfl) (by kernel_rfl) (fun _ _ _ h => h) (Or.inr ⟨by rfl, rfl⟩) hS4 (by kernel_rfl) (by kernel_rfl) ?_
      simp only [Act.put, List.setIfInBounds_toArray, List.set_cons_zero, List.set_cons_succ]
      refine takeD (i := 22) (d := 36) (oi := _) (v := .bool false) (listed' := #[true, true, true, true, true, true, true, true, true, true, true, true, true, true, true, true, true, true, true, true, true, true, true, false]) rfl (by kernel_rfl) (by kernel_rfl) (by kernel_rfl) (fun _ _ _ h => h) (Or.inl ⟨by rfl, ?_⟩) hS4 (by kernel_rfl) (by kernel_rfl) ?_
      · intro w hSw
        try dsimp only at hSw
        first
          | (go_simp; done)
          | (go_simp; with_reducible rfl)
          | (go_simp; simp [hne])
          | (go_simp; simp)
      simp only [Act.put, List.setIfInBounds_toArray, List.set_cons_zero, List.set_cons_succ]
      refine takeD (i := 23) (d := 37) (oi := _) (v := .bool false) (listed' := #[true, true, true, true, true, true, true, true, true, true, true, true, true, true, true, true, true, true, true, true, true, true, true, true]) rfl (by kernel_rfl) (by kernel_rfl) (by kernel_rfl) (fun _ _ _ h => h) (Or.inl ⟨by rfl, ?_⟩) hS4 (by kernel_rfl) (by kernel_rfl) ?_
      · intro w hSw
        try dsimp only at hSw
        first
          | (go_simp; done)
          | (go_simp; with_reducible rfl)
          | (go_simp; simp [hne])
          | (go_simp; simp)
      simp only [Act.put, List.setIfInBounds_toArray, List.set_cons_zero, List.set_cons_succ]
      refine wpAnyH_done (by kernel_rfl) ?_ _
      go_wp2_with fail
      go_meet
      exact ⟨rfl, Bt1⟩
    · have hne : (C == 0) = false := by simpa using h0
      have hn2 : (C != 0) = true := by simp [h0]
      have hn3 : (C != C) = false := by simp
      have fl1 : ∀ (sa : Option Addr) (m sc : Nat) (W : World), (Instr.field 27 (.agg #[.int .i64 C, .int .i64 T, .slice sa m sc]) 0).run Tryz.prog W = .ok (.int .i64 C) W := fun sa m sc W => by kernel_rfl
      clear hPI hFI hBt hDF hBack OB3 B3 OD hW3 r3 hSm
      refine wp_region_held_drew (S := fun u => u.cell? ⟨p, 0, none⟩ = some (.int .i64 C) ∧ u.cell? ⟨p, 2, none⟩ = some (.slice ra R.length rc)) (by kernel_rfl) ⟨d0, d2⟩ (fun hHeld => ?_)
      refine takeD (i := 0) (d := 14) (oi := _) (v := ?_) (listed' := #[true, false, false, false, false, false, false, false, false, false, false, false, false, false, false, false, false, false, false, false, false, false, false, false]) rfl (by kernel_rfl) (by kernel_rfl) (by kernel_rfl) (fun _ _ _ h => h) (Or.inl ⟨by rfl, ?_⟩) hHeld (by kernel_rfl) (by kernel_rfl) ?_
      rotate_left
      · intro w hSw
        try dsimp only at hSw
        first
          | (go_simp; done)
          | (go_simp; with_reducible rfl)
          | (go_simp; simp [hne, hn2, hn3])
          | (go_simp; simp)
      simp only [Act.put, List.setIfInBounds_toArray, List.set_cons_zero, List.set_cons_succ]
      refine takeD (i := 1) (d := 15) (oi := _) (v := ?_) (listed' := #[true, true, false, false, false, false, false, false, false, false, false, false, false, false, false, false, false, false, false, false, false, false, false, false]) rfl (by kernel_rfl) (by kernel_rfl) (by kernel_rfl) (fun _ _ _ h => h) (Or.inl ⟨by rfl, ?_⟩) hHeld (by kernel_rfl) (by kernel_rfl) ?_
      rotate_left
      · intro w hSw
        try dsimp only at hSw
        first
          | (go_simp; done)
          | (go_simp; with_reducible rfl)
          | (go_simp; simp [hne, hn2, hn3])
          | (go_simp; simp)
      simp only [Act.put, List.setIfInBounds_toArray, List.set_cons_zero, List.set_cons_succ]
      refine takeD (i := 2) (d := 16) (oi := _) (v := .bool false) (listed' := #[true, true, true, false, false, false, false, false, false, false, false, false, false, false, false, false, false, false, false, false, false, false, false, false]) rfl (by kernel_rfl) (by kernel_rfl) (by kernel_rfl) (fun _ _ _ h => h) (Or.inl ⟨by rfl, ?_⟩) hHeld (by kernel_rfl) (by kernel_rfl) ?_
      · intro w hSw
        try dsimp only at hSw
        first
          | (go_simp; done)
          | (go_simp; with_reducible rfl)
          | (go_simp; simp [hne, hn2, hn3])
          | (go_simp; simp)
      simp only [Act.put, List.setIfInBounds_toArray, List.set_cons_zero, List.set_cons_succ]
      refine takeD (i := 3) (d := 17) (oi := _) (v := .bool false) (listed' := #[true, true, true, true, false, false, false, false, false, false, false, false, false, false, false, false, false, false, false, false, false, false, false, false]) rfl (by kernel_rfl) (by kernel_rfl) (by kernel_rfl) (fun _ _ _ h => h) (Or.inl ⟨by rfl, ?_⟩) hHeld (by kernel_rfl) (by kernel_rfl) ?_
      · intro w hSw
        try dsimp only at hSw
        first
          | (go_simp; done)
          | (go_simp; with_reducible rfl)
          | (go_simp; simp [hne, hn2, hn3])
          | (go_simp; simp)
      simp only [Act.put, List.setIfInBounds_toArray, List.set_cons_zero, List.set_cons_succ]
      refine takeD (i := 4) (d := 18) (oi := _) (v := undef) (listed' := #[true, true, true, true, true, false, false, false, false, false, false, false, false, false, false, false, false, false, false, false, false, false, false, false]) rfl (by kernel_rfl) (by kernel_rfl) (by kernel_rfl) (fun _ _ _ h => h) (Or.inr ⟨by rfl, rfl⟩) hHeld (by kernel_rfl) (by kernel_rfl) ?_
      simp only [Act.put, List.setIfInBounds_toArray, List.set_cons_zero, List.set_cons_succ]
      refine takeD (i := 5) (d := 19) (oi := _) (v := undef) (listed' := #[true, true, true, true, true, true, false, false, false, false, false, false, false, false, false, false, false, false, false, false, false, false, false, false]) rfl (by kernel_rfl) (by kernel_rfl) (by kernel_rfl) (fun _ _ _ h => h) (Or.inr ⟨by rfl, rfl⟩) hHeld (by kernel_rfl) (by kernel_rfl) ?_
      simp only [Act.put, List.setIfInBounds_toArray, List.set_cons_zero, List.set_cons_succ]
      refine takeD (i := 6) (d := 20) (oi := _) (v := undef) (listed' := #[true, true, true, true, true, true, true, false, false, false, false, false, false, false, false, false, false, false, false, false, false, false, false, false]) rfl (by kernel_rfl) (by kernel_rfl) (by kernel_rfl) (fun _ _ _ h => h) (Or.inr ⟨by rfl, rfl⟩) hHeld (by kernel_rfl) (by kernel_rfl) ?_
      simp only [Act.put, List.setIfInBounds_toArray, List.set_cons_zero, List.set_cons_succ]
      refine takeD (i := 7) (d := 21) (oi := _) (v := undef) (listed' := #[true, true, true, true, true, true, true, true, false, false, false, false, false, false, false, false, false, false, false, false, false, false, false, false]) rfl (by kernel_rfl) (by kernel_rfl) (by kernel_rfl) (fun _ _ _ h => h) (Or.inr ⟨by rfl, rfl⟩) hHeld (by kernel_rfl) (by kernel_rfl) ?_
      simp only [Act.put, List.setIfInBounds_toArray, List.set_cons_zero, List.set_cons_succ]
      refine takeD (i := 8) (d := 22) (oi := _) (v := undef) (listed' := #[true, true, true, true, true, true, true, true, true, false, false, false, false, false, false, false, false, false, false, false, false, false, false, false]) rfl (by kernel_rfl) (by kernel_rfl) (by kernel_rfl) (fun _ _ _ h => h) (Or.inr ⟨by rfl, rfl⟩) hHeld (by kernel_rfl) (by kernel_rfl) ?_
      simp only [Act.put, List.setIfInBounds_toArray, List.set_cons_zero, List.set_cons_succ]
      refine takeD (i := 9) (d := 23) (oi := _) (v := undef) (listed' := #[true, true, true, true, true, true, true, true, true, true, false, false, false, false, false, false, false, false, false, false, false, false, false, false]) rfl (by kernel_rfl) (by kernel_rfl) (by kernel_rfl) (fun _ _ _ h => h) (Or.inr ⟨by rfl, rfl⟩) hHeld (by kernel_rfl) (by kernel_rfl) ?_
      simp only [Act.put, List.setIfInBounds_toArray, List.set_cons_zero, List.set_cons_succ]
      refine takeD (i := 10) (d := 24) (oi := _) (v := .bool false) (listed' := #[true, true, true, true, true, true, true, true, true, true, true, false, false, false, false, false, false, false, false, false, false, false, false, false]) rfl (by kernel_rfl) (by kernel_rfl) (by kernel_rfl) (fun _ _ _ h => h) (Or.inl ⟨by rfl, ?_⟩) hHeld (by kernel_rfl) (by kernel_rfl) ?_
      · intro w hSw
        try dsimp only at hSw
        first
          | (go_simp; done)
          | (go_simp; with_reducible rfl)
          | (go_simp; simp [hne, hn2, hn3])
          | (go_simp; simp)
      simp only [Act.put, List.setIfInBounds_toArray, List.set_cons_zero, List.set_cons_succ]
      refine takeD (i := 11) (d := 25) (oi := _) (v := .bool false) (listed' := #[true, true, true, true, true, true, true, true, true, true, true, true, false, false, false, false, false, false, false, false, false, false, false, false]) rfl (by kernel_rfl) (by kernel_rfl) (by kernel_rfl) (fun _ _ _ h => h) (Or.inl ⟨by rfl, ?_⟩) hHeld (by kernel_rfl) (by kernel_rfl) ?_
      · intro w hSw
        try dsimp only at hSw
        first
          | (go_simp; done)
          | (go_simp; with_reducible rfl)
          | (go_simp; simp [hne, hn2, hn3])
          | (go_simp; simp)
      simp only [Act.put, List.setIfInBounds_toArray, List.set_cons_zero, List.set_cons_succ]
      refine takeD (i := 12) (d := 26) (oi := _) (v := ?_) (listed' := #[true, true, true, true, true, true, true, true, true, true, true, true, true, false, false, false, false, false, false, false, false, false, false, false]) rfl (by kernel_rfl) (by kernel_rfl) (by kernel_rfl) (fun _ _ _ h => h) (Or.inl ⟨by rfl, ?_⟩) hHeld (by kernel_rfl) (by kernel_rfl) ?_
      rotate_left
      · intro w hSw
        try dsimp only at hSw
        first
          | (go_simp; done)
          | (go_simp; with_reducible rfl)
          | (go_simp; simp [hne, hn2, hn3])
          | (go_simp; simp)
      simp only [Act.put, List.setIfInBounds_toArray, List.set_cons_zero, List.set_cons_succ]
      refine takeD (i := 13) (d := 27) (oi := _) (v := .int .i64 C) (listed' := #[true, true, true, true, true, true, true, true, true, true, true, true, true, true, false, false, false, false, false, false, false, false, false, false]) rfl (by kernel_rfl) (by kernel_rfl) (by kernel_rfl) (fun _ _ _ h => h) (Or.inl ⟨by rfl, ?_⟩) hHeld (by kernel_rfl) (by kernel_rfl) ?_
      · intro w hSw
        try dsimp only at hSw
        first
          | (go_simp; done)
          | (go_simp; with_reducible rfl)
          | (go_simp; simp [hne, hn2, hn3])
          | (go_simp; simp)
      simp only [Act.put, List.setIfInBounds_toArray, List.set_cons_zero, List.set_cons_succ]
      refine takeD (i := 14) (d := 28) (oi := _) (v := .bool true) (listed' := #[true, true, true, true, true, true, true, true, true, true, true, true, true, true, true, false, false, false, false, false, false, false, false, false]) rfl (by kernel_rfl) (by kernel_rfl) (by kernel_rfl) (fun _ _ _ h => h) (Or.inl ⟨by rfl, ?_⟩) hHeld (by kernel_rfl) (by kernel_rfl) ?_
      · intro w hSw
        try dsimp only at hSw
        first
          | (go_simp; done)
          | (go_simp; with_reducible rfl)
          | (go_simp; simp [hne, hn2, hn3])
          | (go_simp; simp)
      simp only [Act.put, List.setIfInBounds_toArray, List.set_cons_zero, List.set_cons_succ]
      refine takeD (i := 15) (d := 29) (oi := _) (v := .bool true) (listed' := #[true, true, true, true, true, true, true, true, true, true, true, true, true, true, true, true, false, false, false, false, false, false, false, false]) rfl (by kernel_rfl) (by kernel_rfl) (by kernel_rfl) (fun _ _ _ h => h) (Or.inl ⟨by rfl, ?_⟩) hHeld (by kernel_rfl) (by kernel_rfl) ?_
      · intro w hSw
        try dsimp only at hSw
        first
          | (go_simp; done)
          | (go_simp; with_reducible rfl)
          | (go_simp; simp [hne, hn2, hn3])
          | (go_simp; simp)
      simp only [Act.put, List.setIfInBounds_toArray, List.set_cons_zero, List.set_cons_succ]
      refine takeD (i := 16) (d := 30) (oi := _) (v := ?_) (listed' := #[true, true, true, true, true, true, true, true, true, true, true, true, true, true, true, true, true, false, false, false, false, false, false, false]) rfl (by kernel_rfl) (by kernel_rfl) (by kernel_rfl) (fun _ _ _ h => h) (Or.inl ⟨by rfl, ?_⟩) hHeld (by kernel_rfl) (by kernel_rfl) ?_
      rotate_left
      · intro w hSw
        try dsimp only at hSw
        first
          | (go_simp; done)
          | (go_simp; with_reducible rfl)
          | (go_simp; simp [hne, hn2, hn3])
          | (go_simp; simp)
      simp only [Act.put, List.setIfInBounds_toArray, List.set_cons_zero, List.set_cons_succ]
      refine takeD (i := 19) (d := 33) (oi := _) (v := ?_) (listed' := #[true, true, true, true, true, true, true, true, true, true, true, true, true, true, true, true, true, false, false, true, false, false, false, false]) rfl (by kernel_rfl) (by kernel_rfl) (by kernel_rfl) (fun _ _ _ h => h) (Or.inl ⟨by rfl, ?_⟩) hHeld (by kernel_rfl) (by kernel_rfl) ?_
      rotate_left
      · intro w hSw
        try dsimp only at hSw
        first
          | (go_simp; done)
          | (go_simp; with_reducible rfl)
          | (go_simp; simp [hne, hn2, hn3])
          | (go_simp; simp)
      simp only [Act.put, List.setIfInBounds_toArray, List.set_cons_zero, List.set_cons_succ]
      refine takeD (i := 20) (d := 34) (oi := _) (v := .int .i64 C) (listed' := #[true, true, true, true, true, true, true, true, true, true, true, true, true, true, true, true, true, false, false, true, true, false, false, false]) rfl (by kernel_rfl) (by kernel_rfl) (by kernel_rfl) (fun _ _ _ h => h) (Or.inl ⟨by rfl, ?_⟩) hHeld (by kernel_rfl) (by kernel_rfl) ?_
      · intro w hSw
        try dsimp only at hSw
        first
          | (go_simp; done)
          | (go_simp; with_reducible rfl)
          | (go_simp; simp [hne, hn2, hn3])
          | (go_simp; simp)
      simp only [Act.put, List.setIfInBounds_toArray, List.set_cons_zero, List.set_cons_succ]
      refine wpAnyH_ready (rs := [17]) (by kernel_rfl) (by simp) ?_
      refine AllReadyH.cons (o := _) rfl (fun K' hK' => ?_) AllReadyH.nil
      go_simp
      refine (hSp _).mono ?_
      rintro e wb ⟨vS, rfl, oS, bb⟩
      obtain ⟨sa, sc, rfl⟩ := shapeK3 oS
      clear oS
      have Bt1 : Below w.heap.size w wb := BG.trans (bb.mono BG.size)
      have k0 := (bb.cell (p := ⟨p, 0, none⟩) zD).trans d0
      have k2 := (bb.cell (p := ⟨p, 2, none⟩) zD).trans d2
      refine hK'.out _ _ ⟨k0, k2⟩ (fun hS4 => ?_)
      clear hK' K'
      simp only [List.setIfInBounds_toArray, List.set_cons_zero, List.set_cons_succ]
      refine takeD (i := 18) (d := 32) (oi := _) (v := .int .i64 C) (listed' := #[true, true, true, true, true, true, true, true, true, true, true, true, true, true, true, true, true, true, true, true, true, false, false, false]) rfl (by kernel_rfl) (by kernel_rfl) (by kernel_rfl) (fun _ _ _ h => h) (Or.inl ⟨by rfl, ?_⟩) hS4 (by kernel_rfl) (by kernel_rfl) ?_
      · intro w hSw
        try dsimp only at hSw
        first
          | (go_simp; done)
          | (go_simp; with_reducible rfl)
          | (go_simp; simp [hne, hn2, hn3])
          | (go_simp; simp)
      simp only [Act.put, List.setIfInBounds_toArray, List.set_cons_zero, List.set_cons_succ]
      refine takeD (i := 21) (d := 35) (oi := _) (v := .bool false) (listed' := #[true, true, true, true, true, true, true, true, true, true, true, true, true, true, true, true, true, true, true, true, true, true, false, false]) rfl (by kernel_rfl) (by kernel_rfl) (by kernel_rfl) (fun _ _ _ h => h) (Or.inl ⟨by rfl, ?_⟩) hS4 (by kernel_rfl) (by kernel_rfl) ?_
      · intro w hSw
        try dsimp only at hSw
        first
          | (go_simp; done)
          | (go_simp; with_reducible rfl)
          | (go_simp; simp [hne, hn2, hn3])
          | (go_simp; simp)
      simp only [Act.put, List.setIfInBounds_toArray, List.set_cons_zero, List.set_cons_succ]
      refine takeD (i := 22) (d := 36) (oi := _) (v := .bool false) (listed' := #[true, true, true, true, true, true, true, true, true, true, true, true, true, true, true, true, true, true, true, true, true, true, true, false]) rfl (by kernel_rfl) (by kernel_rfl) (by kernel_rfl) (fun _ _ _ h => h) (Or.inl ⟨by rfl, ?_⟩) hS4 (by kernel_rfl) (by kernel_rfl) ?_
      · intro w hSw
        try dsimp only at hSw
        first
          | (go_simp; done)
          | (go_simp; with_reducible rfl)
          | (go_simp; simp [hne, hn2, hn3])
          | (go_simp; simp)
      simp only [Act.put, List.setIfInBounds_toArray, List.set_cons_zero, List.set_cons_succ]
      refine takeD (i := 23) (d := 37) (oi := _) (v := .bool false) (listed' := #[true, true, true, true, true, true, true, true, true, true, true, true, true, true, true, true, true, true, true, true, true, true, true, true]) rfl (by kernel_rfl) (by kernel_rfl) (by kernel_rfl) (fun _ _ _ h => h) (Or.inl ⟨by rfl, ?_⟩) hS4 (by kernel_rfl) (by kernel_rfl) ?_
      · intro w hSw
        try dsimp only at hSw
        first
          | (go_simp; done)
          | (go_simp; with_reducible rfl)
          | (go_simp; simp [hne, hn2, hn3])
          | (go_simp; simp)
      simp only [Act.put, List.setIfInBounds_toArray, List.set_cons_zero, List.set_cons_succ]
      refine wpAnyH_done (by kernel_rfl) ?_ _
      go_wp2_with fail
      go_meet
      exact ⟨rfl, Bt1⟩
  case rest =>
  obtain ⟨rfl, bc⟩ := hcut
  have hcz := bc.size
  have hBc := hBt _ bc
  clear OB3 B3 r3 c0 c2 hSp hBack hSm hBt hW3 z3 hHz
  go_wp2_with fail
  refine (hDF _ hBc).mono ?_; rintro e w4 ⟨L, g, c, rfl, hL, hok, oL, b4⟩
  have B4 := bc.trans (b4.mono hcz)
  have A4 : OB w4.heap.size w4 (some ⟨g, 0, none⟩) L := OB.of oL
  have hsm := small_ok hok
  have hz4 := B4.size
  clear hDF hBc bc b4 oL hok hcz
  go_wp2_with fail
  refine (hFI _ c L w4 A4 hsm (by omega) B4).mono ?_; rintro e w5 ⟨rfl, b5⟩
  have B5 := B4.trans (b5.mono hz4)
  have A5 : OB w5.heap.size w5 (some ⟨g, 0, none⟩) L := (A4.below b5).mono b5.size
  have hxz := xT_sz L
  have hOk := xT_ok (l := L)
  have hPB := p_back (l := L)
  have hz5 := B5.size
  have hIS := fun W hh => specIndexFault (some ⟨g, 0, none⟩) c L W hh hsm (by omega)
  obtain ⟨X, hX⟩ : ∃ X, xT L = X := ⟨_, rfl⟩
  obtain ⟨K, hK⟩ : ∃ K, ixf L = K := ⟨_, rfl⟩
  simp only [hX, hK] at hxz hOk hPB hIS ⊢
  clear hFI hX hK A4 B4 b5
  obtain ⟨q, hq⟩ : ∃ q, w5.heap.size = q := ⟨_, rfl⟩
  obtain ⟨W6, hW6⟩ : ∃ W, w5.alloc (.cells #[.int .i64 K, .string X] 30) = W := ⟨_, rfl⟩
  have b6 : Below w5.heap.size w5 W6 := by rw [← hW6]; exact allocBelow _ _
  have B6 := B5.trans (b6.mono hz5)
  have A6 : OB W6.heap.size W6 (some ⟨g, 0, none⟩) L := (A5.below b6).mono b6.size
  have r6 : Rf W6 q [.int .i64 K, .string X] := by rw [← hW6, ← hq]; exact Rf.new _ #[.int .i64 K, .string X] _
  have z6 : q < W6.heap.size := by rw [← hW6, ← hq]; simp
  have y0 := r6.at_ 0 _ rfl
  have y1 := r6.at_ 1 _ rfl
  have hz6 := B6.size
  clear A5 B5 b6 hz5
  by_cases hK0 : K = 0
  rotate_left
  · have qn : (K != 0) = true := ne_beq hK0
    have qe : (K == K) = true := by simp
    have A7 : OB W6.drew.heap.size W6.drew (some ⟨g, 0, none⟩) L := A6
    have B7 := below_drew B6
    have hz7 : w.heap.size ≤ W6.drew.heap.size := hz6
    have zq : q < W6.drew.heap.size := z6
    have x0 : W6.drew.cell? ⟨q, 0, none⟩ = some (.int .i64 K) := y0
    clear hPI hOk hPB A6
    go_upto_region 10 with fail
    go_cut [2] from 45 to 50 (fun s wx => s = .bool true ∧ Below w.heap.size w wx)
    case first =>
      clear hW6 r6 y0 y1 B6
      go_region_held (fun u => u.cell? ⟨q, 0, none⟩ = some (.int .i64 K)) (first | with_reducible exact x0 | with_reducible exact x0b | exact x0)
        ((go_at_call 11; refine (hIS _ A7).mono ?_; rintro e wb ⟨rfl, bb⟩; have x0b := (bb.cell (p := ⟨q, 0, none⟩) zq).trans x0; have Bt1 : Below w.heap.size w wb := B7.trans (bb.mono hz7)))
      all_goals (go_wp2_with fail; go_meet; exact ⟨rfl, Bt1⟩)
    case rest =>
    obtain ⟨rfl, bc⟩ := hcut
    clear hIS
    go_wp2
    go_ret
    exact ⟨rfl, bc⟩
  have hXe := hOk hK0
  replace hPB := hPB hK0
  rw [← hXe] at hPB
  subst hK0
  clear hIS hOk hXe
  have hPX := hPI X (by omega) W6 B6
  have hMn := p_many (s := X)
  unfold EP at hPX
  go_wp2_with fail
  refine hPX.mono ?_; rintro e w7 ⟨v7, rfl, o7, b7⟩
  obtain ⟨va, vc, rfl⟩ := shapeK3 o7
  clear hPX hPI
  obtain ⟨R2, hR2⟩ : ∃ R, pE X = R := ⟨_, rfl⟩
  obtain ⟨C2, hC2⟩ : ∃ C, pC X = C := ⟨_, rfl⟩
  obtain ⟨T2, hT2⟩ : ∃ T, pAt X = T := ⟨_, rfl⟩
  simp only [hR2, hC2, hT2] at hPB hMn o7 ⊢
  have A7 : OB w7.heap.size w7 (some ⟨g, 0, none⟩) L := (A6.below b7).mono b7.size
  have P7 : OB w7.heap.size w7 va R2 := OB.of o7
  have B7 := B6.trans (b7.mono hz6)
  have x1 := (b7.cell (p := ⟨q, 1, none⟩) z6).trans y1
  have z7 : q < w7.heap.size := Nat.lt_of_lt_of_le z6 b7.size
  obtain ⟨m, hm⟩ : ∃ m, w7.heap.size = m := ⟨_, rfl⟩
  obtain ⟨W8, hW8⟩ : ∃ W, w7.alloc (.cells #[.int .i64 C2, .int .i64 T2, .slice va R2.length vc] 27) = W := ⟨_, rfl⟩
  have b8 : Below w7.heap.size w7 W8 := by rw [← hW8]; exact allocBelow _ _
  have B8 := B7.trans (b8.mono (by have := b7.size; omega))
  have A8 : OB W8.heap.size W8 (some ⟨g, 0, none⟩) L := (A7.below b8).mono b8.size
  have P8 : OB W8.heap.size W8 va R2 := (P7.below b8).mono b8.size
  have r8 : Rf W8 m [.int .i64 C2, .int .i64 T2, .slice va R2.length vc] := by rw [← hW8, ← hm]; exact Rf.new _ #[.int .i64 C2, .int .i64 T2, .slice va R2.length vc] _
  have u1 : W8.cell? ⟨q, 1, none⟩ = some (.string X) := (b8.cell (p := ⟨q, 1, none⟩) z7).trans x1
  have t0 := r8.at_ 0 _ rfl
  have t2 := r8.at_ 2 _ rfl
  clear hR2 hC2 hT2 A7 P7 B7 b8 o7 b7 r6 r8 y0 A6 B6 hW6 z6 z7 x1
  by_cases hbg : 12000 < X.size
  · obtain ⟨e1, -, -⟩ := hMn hbg
    subst e1
    have q1 : (12000 : Int) < (X.size : Int) := by omega
    clear hPB hMn
    go_wp2
    go_ret
    exact ⟨rfl, B8⟩
  · obtain ⟨e1, e2⟩ := hPB hbg
    subst e1; subst e2
    have q1 : ¬ (12000 : Int) < (X.size : Int) := by omega
    have hLw := lwEntriesC va (some ⟨g, 0, none⟩) vc c R2 W8 P8 A8 (by omega)
    clear hPB hMn A8 P8
    go_wp2_with fail
    refine hLw.mono ?_; rintro e w9 ⟨rfl, nq, rfl⟩
    have B9 := below_drewN' B8 nq
    clear hLw B8
    go_wp2
    go_ret
    exact ⟨rfl, B9⟩

set_option linter.unusedVariables false
theorem laidOut : laidOutB Tryz.prog = true := by kernel_rfl
theorem own : ownKnob Tryz.prog.godebug = none := by kernel_rfl
set_option maxRecDepth 100000 in
theorem lifted (os : Os) (started : os.Started) (H : Type) (enc : TypeId × Value → H) :
    ReturnsInHanded {} Tryz.checked os 3 .any (fun w args => (Rows.fnIndexTextsSpec.pre enc Tryz.prog Tryz.f3 [] false w args ∧ laidMetH Tryz.prog Rows.fnIndexTextsRow.laid w) ∧ sizedMet enc Tryz.prog Tryz.f3 (OpenSpec.ofChange Rows.fnIndexTextsSpec) false w args)
      (Rows.fnIndexTextsSpec.post enc Tryz.prog Tryz.f3 false true false false) := by
  refine returnsInHanded_of_change_and (C := Tryz.checked) (X := fun w _ => laidMetH Tryz.prog Rows.fnIndexTextsRow.laid w) (fun _ _ _ hh h => h.of_heap hh) own started (by kernel_rfl) Tryz.func3
    (ChangeSpec.witness_shaped (enc := enc) (C := Tryz.checked) (os := os) (X := fun w _ => laidMetH Tryz.prog Rows.fnIndexTextsRow.laid w) false (World.laidAll Tryz.prog os Rows.fnIndexTextsRow.laid) #[.slice none 0 0] 8 (World.laidAll_os _ _ _) (World.shaped_of_ZipB (by kernel_rfl) (by kernel_rfl)) (by kernel_rfl) (by kernel_rfl) (by kernel_rfl) (by rw [MakeChecks.laidMetH_plain _ _ _ (by kernel_rfl)]; exact laidMet_laidAll _ (by kernel_rfl) (by kernel_rfl))) ?_
  intro W base args ds gs before hval0 hW _ _ hL _
  have hval : ∀ (j : Nat) t v, Tryz.f3.params[j]? = some t → args[j]? = some v → Value.okWide Tryz.prog W .any base t v := hval0
  have hW' := hW
  obtain ⟨p, q, hA0, hV0, rfl, hfz, hnd⟩ := hW
  have hA : DataW.TrodAll enc Tryz.prog W 0 (fun _ => true) true Tryz.f3.params.toList args.toList ds p := hA0
  have hV : DataW.TrodVars enc Tryz.prog W (fun _ => true) ["loop.example/g00172/impl.modeWords"] gs q := hV0
  rw [Tryz.params3] at hA hval
  obtain ⟨v0, vs0, d0, ds0, p0, q0, hargs, rfl, rfl, h0, r0⟩ := trodAll_cons hA
  obtain ⟨rfl, rfl, rfl⟩ := trodAll_nil r0
  obtain rfl : args = #[v0] := by cases args; simp_all
  obtain ⟨g1, hg1⟩ : ∃ g1, gs = [g1] := by
    obtain ⟨_, _, _, _, d, _, e, _⟩ := trodVars_one hV
    exact ⟨d, e⟩
  subst hg1
  obtain ⟨a0, len0, cap0, rfl⟩ := okWide_slice Tryz.underlying22 (hval 0 22 v0 rfl rfl)
  have k0 := h0
  have lt0 : ∀ x ∈ p0, x.block < W.heap.size := by obtain ⟨m, hm⟩ := k0; exact DataW.trod_lt m _ _ _ hm
  obtain ⟨w0, n0⟩ := openBts h0 lt0
  obtain ⟨hTa, hMw⟩ := Xt.it_laid hL
  clear hA0 hval0
  refine (walk a0 len0 cap0 W w0 n0 hMw (cellLt hMw.1) hTa (Xt.cellLtTa hTa)).mono fun e W' ⟨he, bel⟩ => ?_
  subst he
  exact ⟨_, rfl, _, _, _, [], _, _, hW', trodAll_mk1 (shut_bool Tryz.underlying4 _), (trodAll_cons_mk (Below.trod laidOut (by kernel_rfl) (of_decide_eq_true (by kernel_rfl)) k0 bel lt0) trodAll_mk0), Below.trodVars laidOut bel (by kernel_rfl) hV, bel.frame _, fun h => by cases h⟩

theorem over : Rows.fnIndexTextsRow.holds Tryz.pinned (OpenSpec.ofChange Rows.fnIndexTextsSpec) :=
  OpenClaim.holds_of_wide 3 Tryz.f3 rfl rfl rfl rfl rfl rfl rfl ⟨rfl, rfl, rfl, rfl, rfl⟩ rfl rfl rfl rfl rfl (by kernel_rfl) Tryz.func3 (by kernel_rfl)
    (of_decide_eq_true (by kernel_rfl)) (by unfold Func.isWrapper; first | (rw [if_pos (by decide +kernel)]; kernel_rfl) | (rw [if_neg (by decide +kernel)]; exact ⟨rfl, rfl⟩))
    (fun os started H enc _ => lifted os started H enc)

theorem proved : Rows.FnIndexTextsCardSaid :=
  Claim7.holds_tied_plain_at .later [] [.data, .data, .data, .data, .data, .pinned] true _ false
    over (fun _ h => by cases h) (by kernel_rfl) (fun _ h => by cases h) fnIndexTexts_row_tie rfl ⟨rfl, rfl⟩ (by kernel_rfl) rfl
    (fun f fn hf hfn => by
      obtain rfl : f = 3 := Option.some.inj ((show Tryz.prog.funcNamed "loop.example/g00172/laws.FnIndexTexts" = some 3 by kernel_rfl).symm.trans hf) |>.symm
      obtain rfl : fn = Tryz.f3 := (Option.some.inj (Tryz.func3.symm.trans hfn)).symm
      exact ⟨by kernel_rfl, fun j t ht => by
        rw [Tryz.params3] at ht
        have hm : t ∈ [22] := by simpa using Array.mem_of_getElem? ht
        have hall : ([22].all fun u => !Tryz.prog.wantsStandIn u) = true := by kernel_rfl
        exact (show Tryz.prog.wantsStandIn t = false by simpa using List.all_eq_true.1 hall t hm)⟩)
    (by kernel_rfl)
end Go.Proofs.YtjcnnmnnbjaheaaGreatDoor.ItF
namespace Go.Proofs.YtjcnnmnnbjaheaaGreatDoor
theorem fnIndexTexts_proved : Rows.FnIndexTextsCardSaid := ItF.proved
end Go.Proofs.YtjcnnmnnbjaheaaGreatDoor
