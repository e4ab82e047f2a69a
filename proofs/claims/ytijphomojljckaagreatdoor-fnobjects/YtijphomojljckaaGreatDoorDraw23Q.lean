/- Entries of a tree, as the specification draws them. No statement is proved here. -/
import Derived.Test.YtijphomojljckaaGreatDoorRows
import Derived.Test.YtijphomojljckaaGreatDoorLemQ
import Derived.Test.YtijphomojljckaaGreatDoorLFLemQ
import Derived.Test.YtijphomojljckaaGreatDoorComQ
import Derived.Test.YtijphomojljckaaGreatDoorInQ
import Derived.Test.YtijphomojljckaaGreatDoorHkTQ
import Derived.Test.YtijphomojljckaaGreatDoorTeLQ
import Derived.Test.YtijphomojljckaaGreatDoorTeAQ
import Derived.Test.YtijphomojljckaaGreatDoorDigCQ
import Derived.Test.YtijphomojljckaaGreatDoorDrawQ
import Derived.Test.YtijphomojljckaaGreatDoorCutDQ
import Derived.Test.YtijphomojljckaaGreatDoorDraw21Q
import Derived.Test.YtijphomojljckaaGreatDoorDraw24Q
import Derived.WalkKit
import Derived.ProofKit
import Derived.Below
import Derived.WalkSpells
import Derived.Maps.AppendAt
import Derived.Deep.QuietTactic
import Derived.BigQuiet
import Derived.Deep.RegionWith
import Derived.Deep.RegionHeld
import Derived.Deep.Cut
import Derived.Deep.CutRange
import Derived.Deep.Onto
set_option linter.unusedVariables false
namespace Go.Proofs.YtijphomojljckaaGreatDoor.Te
open Go.ChangeShapes Go.WideShapes Go.ChangeAt Go.RowKit
set_option maxHeartbeats 3000000 in
theorem l6Entries (N b : Nat) (a : Option Addr) (n cap : Nat) (k : Int) (w : World) (h : Src N w b a n cap k) (hk : k ≤ 4294900000) :
    Calls Tryz.prog 18 #[.pointer (some ⟨b, 0, none⟩)] w fun e w' => EntPost N b a n cap k w e w' := by
  have hlt := h.lt
  have hge := h.ge
  go_enter Tryz.func18, Tryz.ntmps18
  go_wp2
  go_loopw [3, 5] (fun v i wr => ∃ (m : Nat) (L : List Ob) (g c : Nat) (k' : Int), i = .int .i64 m ∧ v = .slice (some ⟨g, 0, none⟩) L.length c ∧ m ≤ 6 ∧ L.length ≤ m ∧ (∀ o ∈ L, EOk o) ∧
      EW N b w.heap.size (w.heap.size + 1) a n cap (k + 4 * m) w wr g c L k' ∧ g ≠ w.heap.size + 1 ∧ w.heap.size + 2 ≤ wr.heap.size) (fun _ i _ => (6 - intOf i).toNat)
  case atStart =>
    refine ⟨0, [], w.heap.size, 0, k, rfl, rfl, by omega, by simp, by simp, ⟨(litX w).alloc _, ?_, (h.below ((Below.refl _ _).alloc (Nat.le_refl _) _)).below ((Below.refl _ _).alloc (Nat.le_refl _) _), by omega, grT2 grA grA⟩, by omega, by simp⟩
    have := lit_new (w.alloc (.cells #[] 72)) [⟨#[97]⟩, ⟨#[98]⟩, ⟨#[99, 46, 103, 111]⟩, ⟨#[100, 105, 114]⟩, ⟨#[108, 105, 98]⟩, ⟨#[120, 45, 49]⟩] 9 100 (by decide)
    simpa using this
  case round =>
    obtain ⟨m, L, g, c, k', rfl, rfl, hm, hL, hok, hE, hgn, hsz⟩ := hrel
    have hkk := hE.hi
    by_cases hpos : m < 6
    · have hp : (m : Int) < 6 := by omega
      go_wp2_with fail
      refine (l1Chance N b a n cap k' 2 _ hE.src (by omega)).mono ?_; rintro e w1 ⟨r, rfl, hs1, hg1⟩
      have hS1 := hg1.size
      have hE1 := hE.draw hs1 hg1 hlt (by omega) (k + 4 * m + 1) (by omega)
      clear hE hs1 hg1
      cases r with
      | true =>
        go_wp2_with fail
        go_roundw
        case rel =>
          refine ⟨m + 1, L, g, c, k' + 1, ?_, rfl, by omega, by omega, hok, ⟨hE1.own, hE1.nm, hE1.src, by omega, hE1.gr⟩, hgn, by omega⟩
          go_num
        case measure => simp [intOf]; omega
      | false =>
        obtain ⟨x, hx, hx1⟩ := hE1.nm m hpos
        obtain ⟨Z, hZ⟩ : ∃ Z, Obj.cells #[.string ⟨#[]⟩, .int .i64 0, .string ⟨#[]⟩] 72 = Z := ⟨_, rfl⟩
        have bL : Below w1.heap.size w1 (w1.alloc Z).drew := ((Below.refl _ _).alloc (Nat.le_refl _) _).drew
        have bD : Below w1.heap.size w1 w1.drew := (Below.refl _ _).drew
        have hPa := l1Next N b a n cap _ 3 _ (hE1.src.below bL) (by omega)
        have hPb := l1Next N b a n cap _ 3 _ (hE1.src.below bD) (by omega)
        have hnb : some (w.heap.size + 1) ≠ some b := by simp; omega
        have hRZ : ∀ u : World, Rf (u.alloc Z) u.heap.size [.string ⟨#[]⟩, .int .i64 0, .string ⟨#[]⟩] := fun u => by rw [← hZ]; exact Rf.new u #[.string ⟨#[]⟩, .int .i64 0, .string ⟨#[]⟩] _
        have hRa : Rf (w1.alloc Z).drew w1.heap.size [.string ⟨#[]⟩, .int .i64 0, .string ⟨#[]⟩] := ⟨fun k v hk => (hRZ w1).at_ k v hk, fun k => (hRZ w1).fz k⟩
        have hza : w1.heap.size < (w1.alloc Z).drew.heap.size := by simp
        have hxa : (w1.alloc Z).drew.cell? ⟨w.heap.size + 1, m, none⟩ = some (.string x) := (grB bL none).cell hx (by simp)
        have hxb : (w1.alloc Z).cell? ⟨w.heap.size + 1, m, none⟩ = some (.string x) := hxa
        have hxd : w1.drew.cell? ⟨w.heap.size + 1, m, none⟩ = some (.string x) := hx
        have hW : ∀ r9 : Int, 0 ≤ r9 → r9 < 3 → IntKind.i64.wrap (1 + r9) = 1 + r9 := fun r9 h0 h1 => by rw [IntKind.wrap_i64]; omega
        have hgl := (hE1.own.lt g rfl).2
        have FA : ∀ (w9 : World) (r9 k9 : Int), Src N w9 b a n cap k9 → (w1.alloc Z).drew.grownBy w9 (some b) → 0 ≤ r9 → r9 < 3 → k9 ≤ k + 4 * m + 2 → Rf w9 w1.heap.size [.string ⟨#[]⟩, .int .i64 0, .string ⟨#[]⟩] → Hid (ER N b w.heap.size (w.heap.size + 1) a n cap (k + 4 * m + 2) w w1 g c L x (.pointer (some ⟨w1.heap.size, 0, none⟩)) (((w9.setCell ⟨w1.heap.size, 0, none⟩ (.string x)).setCell ⟨w1.heap.size, 1, none⟩ (.int .i64 (1 + r9))).setCell ⟨w1.heap.size, 2, none⟩ (.string ⟨#[]⟩))) := fun w9 r9 k9 s9 g9 h0 h1 hk9 R9 =>
          ER.mk' ((hE1.bel bL).draw s9 g9 hlt (by omega) _ hk9) R9 h0 h1 (Nat.le_refl _) (Nat.lt_of_lt_of_le hza g9.size) (by omega) (by omega) (by omega) (by omega) (by omega)
        have FB : ∀ (w9 : World) (r9 k9 : Int), Src N w9 b a n cap k9 → w1.drew.grownBy w9 (some b) → 0 ≤ r9 → r9 < 3 → k9 ≤ k + 4 * m + 2 → Rf (w9.alloc Z) w9.heap.size [.string ⟨#[]⟩, .int .i64 0, .string ⟨#[]⟩] → Hid (ER N b w.heap.size (w.heap.size + 1) a n cap (k + 4 * m + 2) w w1 g c L x (.pointer (some ⟨w9.heap.size, 0, none⟩)) ((((w9.alloc Z).setCell ⟨w9.heap.size, 0, none⟩ (.string x)).setCell ⟨w9.heap.size, 1, none⟩ (.int .i64 (1 + r9))).setCell ⟨w9.heap.size, 2, none⟩ (.string ⟨#[]⟩))) := fun w9 r9 k9 s9 g9 h0 h1 hk9 R9 => by
          have z9 : w1.heap.size ≤ w9.heap.size := g9.size
          exact ER.mk' (((hE1.bel bD).draw s9 g9 hlt (by omega) _ hk9).bel ((Below.refl _ _).alloc (Nat.le_refl _) _)) R9 h0 h1 z9 (by simp) (by omega) (by omega) (by omega) (by omega) (by omega)
        go_wp2_with fail
        go_cut [6] from 18 to 26 (fun s wx => ER N b w.heap.size (w.heap.size + 1) a n cap (k + 4 * m + 2) w w1 g c L x s wx)
        case first =>
          go_region_with (first
            | (go_at_call 35; refine hPa.mono ?_; rintro e w9 ⟨r9, rfl, hd, s9, g9⟩; have hd0 := hd.1; have hd1 : r9 < 3 := hd.2.1 (by omega); have R9 := hRa.grewX hza g9 (by omega); have c90 := R9.at_ 0 _ rfl; have c91 := R9.at_ 1 _ rfl; have c92 := R9.at_ 2 _ rfl; have f90 := R9.fz 0; have f91 := R9.fz 1; have f92 := R9.fz 2; have hx9 := g9.cell hxa hnb; have hw9 : IntKind.i64.wrap (1 + r9) = 1 + r9 := hW r9 hd0 hd1; have RR := FA w9 r9 _ s9 g9 hd0 hd1 (by omega) R9)
            | (go_at_call 35; refine hPb.mono ?_; rintro e w9 ⟨r9, rfl, hd, s9, g9⟩; have hd0 := hd.1; have hd1 : r9 < 3 := hd.2.1 (by omega); have R9 := hRZ w9; have c90 := R9.at_ 0 _ rfl; have c91 := R9.at_ 1 _ rfl; have c92 := R9.at_ 2 _ rfl; have f90 := R9.fz 0; have f91 := R9.fz 1; have f92 := R9.fz 2; have hx9 := g9.cell hxd hnb; have hx8 : (w9.alloc Z).cell? ⟨w.heap.size + 1, m, none⟩ = some (.string x) := (grA (r := none)).cell hx9 (by simp); have hw9 : IntKind.i64.wrap (1 + r9) = 1 + r9 := hW r9 hd0 hd1; have RR := FB w9 r9 _ s9 g9 hd0 hd1 (by omega) R9))
          all_goals (go_wp2_with fail; go_meet; exact RR.out)
        case rest =>
          obtain ⟨p, r, y, k2, rfl, hr0, hr1, hy, hR, hp1, hp2, hE2⟩ := hcut
          have hk2 := hE2.hi
          have hgl2 := (hE2.own.lt g rfl).2
          have i0 := hE2.src
          clear hPa hPb hRZ hRa hxa hxb hxd FA FB bL bD hx
          go_wp2_with fail
          refine (l1Word N b a n cap k2 _ i0 (by omega)).mono ?_; rintro e w3 ⟨z, rfl, hz, s3, g3⟩
          have hR3 := hR.grewX hp2 g3 (by omega)
          have hp3 := Nat.lt_of_lt_of_le hp2 g3.size
          have hE3 := hE2.draw s3 g3 hlt (by omega) (k + 4 * m + 3) (by omega)
          have f2 := hR3.fz 2
          have c2 := hR3.at_ 2 _ rfl
          clear hE2 hR s3 i0
          go_wp2_with fail
          refine (l5Id 1 z _ rfl (by omega)).mono ?_; rintro e w4 ⟨rfl, rfl⟩
          obtain ⟨W4, hW4⟩ : ∃ W, w4.setCell ⟨p, 2, none⟩ (.string (idN 1 z)) = W := ⟨_, rfl⟩
          have hR4 : Rf W4 p [.string x, .int .i64 (1 + r), .string (idN 1 z)] := by rw [← hW4]; exact hR3.set (o := 2) (by simp) _
          have hp4 : p < W4.heap.size := by rw [← hW4]; exact Nat.lt_of_lt_of_le hp3 (grownSet _ _ _ _).size
          have hE4 : EW N b w.heap.size (w.heap.size + 1) a n cap (k + 4 * m + 3) w W4 g c L (k2 + 1) := by rw [← hW4]; exact hE3.step (grownSet _ _ _ _) (by omega) (by omega) (by omega) (by omega) (by omega)
          have c41 := hR4.at_ 1 _ rfl
          have hy4 := idN_sz 1 z
          clear hE3 hR3
          go_upto_if 32 with (fail)
          go_cut [] from 26 to 37 (fun wx => ∃ (y : ByteArray) (k3 : Int), y.size ≤ 100 ∧ Rf wx p [.string x, .int .i64 (1 + r), .string y] ∧ p < wx.heap.size ∧ EW N b w.heap.size (w.heap.size + 1) a n cap (k + 4 * m + 4) w wx g c L k3)
          case first =>
            by_cases hr : 1 + r = 3
            · have hr' : (1 + r == 3) = true := by simpa using hr
              go_wp2_with fail
              refine (l1Word N b a n cap (k2 + 1) _ hE4.src (by omega)).mono ?_; rintro e w5 ⟨z5, rfl, hz5, s5, g5⟩
              have hR5 := hR4.grewX hp4 g5 (by omega)
              have hp5 := Nat.lt_of_lt_of_le hp4 g5.size
              have hE5 := hE4.draw s5 g5 hlt (by omega) (k + 4 * m + 4) (by omega)
              have f52 := hR5.fz 2
              have c52 := hR5.at_ 2 _ rfl
              have hy5 := idN_sz 2 z5
              have HH : Hid (∃ (y : ByteArray) (k3 : Int), y.size ≤ 100 ∧ Rf (w5.setCell ⟨p, 2, none⟩ (.string (idN 2 z5))) p [.string x, .int .i64 (1 + r), .string y] ∧ p < (w5.setCell ⟨p, 2, none⟩ (.string (idN 2 z5))).heap.size ∧ EW N b w.heap.size (w.heap.size + 1) a n cap (k + 4 * m + 4) w (w5.setCell ⟨p, 2, none⟩ (.string (idN 2 z5))) g c L k3) :=
                ⟨idN 2 z5, k2 + 1 + 1, by omega, hR5.set (o := 2) (by simp) _, Nat.lt_of_lt_of_le hp5 (grownSet _ _ _ _).size, hE5.step (grownSet _ _ _ _) (by omega) (by omega) (by omega) (by omega) (by omega)⟩
              clear hE4 hR4 hE5 hR5 s5
              go_wp2_with fail
              refine (l5Id 2 z5 _ rfl (by omega)).mono ?_; rintro e w6 ⟨rfl, rfl⟩
              go_wp2_with fail
              go_meet
              exact HH.out
            · have hr' : (1 + r == 3) = false := by simpa using hr
              go_wp2_with fail
              go_meet
              exact ⟨idN 1 z, k2 + 1, by omega, hR4, hp4, ⟨hE4.own, hE4.nm, hE4.src, by have := hE4.hi; omega, hE4.gr⟩⟩
          case rest =>
            obtain ⟨y5, k5, hy5, hR5, hp5, hE5⟩ := hcut
            have hk5 := hE5.hi
            have hgl5 := (hE5.own.lt g rfl)
            have c50 := hR5.at_ 0 _ rfl
            have c51 := hR5.at_ 1 _ rfl
            have c52 := hR5.at_ 2 _ rfl
            have o5 := hE5.own.alloc (.cells #[.string x, .int .i64 (1 + r), .string y5] 72)
            have nw := newX wc (x, 1 + r, y5)
            have z5 : w.heap.size ≤ (wc.alloc (.cells #[.string x, .int .i64 (1 + r), .string y5] 72)).heap.size := by simp; omega
            have hE6 := hE5.bel ((Below.refl _ _).alloc (Nat.le_refl _) (.cells #[.string x, .int .i64 (1 + r), .string y5] 72))
            clear hE4 hR4 hE5
            go_wp2_with (at_builtin; refine wpList_appX rfl (.tmp 37) (.tmp 39) rfl w.heap.size (.slice (some ⟨g, 0, none⟩) L.length c) L rfl o5 _ _ [(x, 1 + r, y5)] rfl nw (by simp; omega) z5 ?_; intro v6 w6 o6 g6 n6 q6)
            obtain ⟨g', c', rfl⟩ := ownedX o6 (by simp)
            have hS6 := g6.size
            simp only [World.size_alloc] at hS6
            go_roundw
            case rel =>
              refine ⟨m + 1, L ++ [(x, 1 + r, y5)], g', c', k5, ?_, by simp, by omega, by simp; omega, ?_, ⟨o6, hE6.nm.kept g6 (by rw [ownBlock_slice]; simp; omega), hE6.src.kept g6 (by rw [ownBlock_slice]; simp; omega) (fun j hj => by rw [ownBlock_slice] at hj; cases hj; omega), by omega, grown_new hE6.gr g6 (fun j hj => by rw [ownBlock_slice] at hj; cases hj; omega)⟩, ?_, by omega⟩
              · go_num
              · intro o ho
                rcases List.mem_append.1 ho with h1 | h1
                · exact hok o h1
                · rw [List.mem_singleton] at h1; subst h1; exact ⟨hx1, by show 0 ≤ 1 + r; omega, by show 1 + r ≤ 4; omega, hy5⟩
              · rcases q6 with q | q
                · rw [ownBlock_slice, ownBlock_slice] at q; cases q; exact hgn
                · rw [ownBlock_slice, World.size_alloc] at q; cases q; omega
            case measure => simp [intOf]; omega
    · have hp : ¬ (m : Int) < 6 := by omega
      by_cases hl0 : L.length = 0
      · have hl0' : ((L.length : Int) == 0) = true := by simp [hl0]
        go_wp2_with fail
        go_ret
        exact ⟨L, g, c, k', by rw [hl0]; rfl, by omega, hok, hE.own, hE.src, by omega, hE.gr⟩
      · have hl0' : ((L.length : Int) == 0) = false := by simp; intro h; exact hl0 (by simp [h])
        go_wp2_with fail
        refine (l1Next N b a n cap k' L.length _ hE.src (by omega)).mono ?_; rintro e w2 ⟨r2, rfl, hd2, s2, g2⟩
        have hS2 := g2.size
        have hE2 := hE.draw s2 g2 hlt (by omega) (k + 4 * m + 1) (by omega)
        have hi0 := hd2.1
        have hi1 : r2 < L.length := hd2.2.1 (by omega)
        obtain ⟨i, rfl⟩ := Int.eq_ofNat_of_zero_le hi0
        clear hE s2 hd2
        go_wp2_with fail
        refine (l1Next N b a n cap (k' + 1) 20 _ hE2.src (by omega)).mono ?_; rintro e w3 ⟨r3, rfl, hd3, s3, g3⟩
        have hS3 := g3.size
        have hE3 := hE2.draw s3 g3 hlt (by omega) (k + 4 * m + 2) (by omega)
        clear hE2 s3
        have hgr := hE3.own.lt g rfl
        have hi : i < L.length := by omega
        have hk3 := hE3.hi
        have hL6 : L.length ≤ 6 := by omega
        have hoi := hok _ (getD_memX L i hi)
        have hd30 := hd3.1
        clear hd3 g3 g2 hl0 hl0' hp hpos
        by_cases r0 : r3 = 0
        · subst r0
          have lL := lit_new w3 [(⟨#[]⟩ : ByteArray), ⟨#[65]⟩, ⟨#[122, 122]⟩, ⟨#[46]⟩] 9 100 (by decide)
          simp only [List.map_cons, List.map_nil, List.length_cons, List.length_nil, Nat.zero_add, Nat.reduceAdd] at lL
          have hE4 := hE3.bel (allocBelow w3 (.cells #[.string ⟨#[]⟩, .string ⟨#[65]⟩, .string ⟨#[122, 122]⟩, .string ⟨#[46]⟩] 9))
          clear hE3
          go_wp2_with fail
          refine (l1Next N b a n cap _ 4 _ hE4.src (by omega)).mono ?_; rintro e w4 ⟨r4, rfl, hd4, s4, g4⟩
          have hE5 := hE4.draw s4 g4 hlt (by omega) (k + 4 * m + 3) (by omega)
          have hd40 := hd4.1
          have hd41 : r4 < 4 := hd4.2.1 (by omega)
          obtain ⟨j, rfl⟩ := Int.eq_ofNat_of_zero_le hd40
          obtain ⟨x, hx, hx1⟩ := (lL.kept g4 (by simp; omega)) j (by omega)
          have hi3 : i * 3 < L.length * 3 := by omega
          have k0 := hE5.own.cellAt (i * 3) hi3
          rw [ocells, rowG_at _ _ _ hi3] at k0
          have f0 := hE5.own.frozenAt (i * 3)
          have HF : Hid (EntPost N b a n cap k w (.returned (.slice (some ⟨g, 0, none⟩) L.length c)) (w4.setCell ⟨g, i * 3, none⟩ (.string x))) := hE5.put hL6 hok i (x, (L.getD i onil).2) ⟨hx1, hoi.2.1, hoi.2.2.1, hoi.2.2.2⟩ (i * 3) (.string x) (ocells_set0 L i x hi) hlt (by omega)
          clear hE4 hE5 s4 g4 hd4 lL hoi hok
          go_wp2
          go_ret
          exact HF.out
        by_cases r1 : r3 = 1
        · subst r1
          have hE4 := hE3.bel (allocBelow w3 (.cells #[.int .i64 0, .int .i64 4, .int .i64 1, .int .i64 3] 2))
          have hl : ∀ j, j < 4 → ∃ v : Int, (w3.alloc (.cells #[.int .i64 0, .int .i64 4, .int .i64 1, .int .i64 3] 2)).cell? ⟨w3.heap.size, j, none⟩ = some (.int .i64 v) ∧ (0 ≤ v ∧ v ≤ 4) := by
            intro j hj
            have q := Rs.new w3 #[.int .i64 0, .int .i64 4, .int .i64 1, .int .i64 3] 2 j
            have hj4 : j = 0 ∨ j = 1 ∨ j = 2 ∨ j = 3 := by omega
            rcases hj4 with rfl | rfl | rfl | rfl
            · exact ⟨0, q _ rfl, by omega⟩
            · exact ⟨4, q _ rfl, by omega⟩
            · exact ⟨1, q _ rfl, by omega⟩
            · exact ⟨3, q _ rfl, by omega⟩
          clear hE3
          go_wp2_with fail
          refine (l1Pick N b a n cap _ w3.heap.size 4 4 (fun v => 0 ≤ v ∧ v ≤ 4) _ hE4.src (by omega) (by omega) (by omega) (by omega) (by simp) hl).mono ?_; rintro e w4 ⟨x, rfl, hx1, s4, g4⟩
          have hE5 := hE4.draw s4 g4 hlt (by omega) (k + 4 * m + 3) (by omega)
          have hi3 : i * 3 + 1 < L.length * 3 := by omega
          have k0 := hE5.own.cellAt (i * 3 + 1) hi3
          rw [ocells, rowG_at _ _ _ hi3] at k0
          have f0 := hE5.own.frozenAt (i * 3 + 1)
          have HF : Hid (EntPost N b a n cap k w (.returned (.slice (some ⟨g, 0, none⟩) L.length c)) (w4.setCell ⟨g, i * 3 + 1, none⟩ (.int .i64 x))) := hE5.put hL6 hok i ((L.getD i onil).1, x, (L.getD i onil).2.2) ⟨hoi.1, hx1.1, hx1.2, hoi.2.2.2⟩ (i * 3 + 1) (.int .i64 x) (ocells_set1 L i x hi) hlt (by omega)
          clear hE4 hE5 s4 g4 hl hoi hok
          go_wp2
          go_ret
          exact HF.out
        by_cases r2 : r3 = 2
        · subst r2
          have lL := lit_new w3 [(⟨#[]⟩ : ByteArray), ⟨#[98, 48, 48, 48, 48]⟩, ⟨#[116, 48, 48, 48, 48]⟩, ⟨#[99, 48, 48, 48, 48]⟩] 9 100 (by decide)
          simp only [List.map_cons, List.map_nil, List.length_cons, List.length_nil, Nat.zero_add, Nat.reduceAdd] at lL
          have hE4 := hE3.bel (allocBelow w3 (.cells #[.string ⟨#[]⟩, .string ⟨#[98, 48, 48, 48, 48]⟩, .string ⟨#[116, 48, 48, 48, 48]⟩, .string ⟨#[99, 48, 48, 48, 48]⟩] 9))
          clear hE3
          go_wp2_with fail
          refine (l1Next N b a n cap _ 4 _ hE4.src (by omega)).mono ?_; rintro e w4 ⟨r4, rfl, hd4, s4, g4⟩
          have hE5 := hE4.draw s4 g4 hlt (by omega) (k + 4 * m + 3) (by omega)
          have hd40 := hd4.1
          have hd41 : r4 < 4 := hd4.2.1 (by omega)
          obtain ⟨j, rfl⟩ := Int.eq_ofNat_of_zero_le hd40
          obtain ⟨x, hx, hx1⟩ := (lL.kept g4 (by simp; omega)) j (by omega)
          have hi3 : i * 3 + 2 < L.length * 3 := by omega
          have k0 := hE5.own.cellAt (i * 3 + 2) hi3
          rw [ocells, rowG_at _ _ _ hi3] at k0
          have f0 := hE5.own.frozenAt (i * 3 + 2)
          have HF : Hid (EntPost N b a n cap k w (.returned (.slice (some ⟨g, 0, none⟩) L.length c)) (w4.setCell ⟨g, i * 3 + 2, none⟩ (.string x))) := hE5.put hL6 hok i ((L.getD i onil).1, (L.getD i onil).2.1, x) ⟨hoi.1, hoi.2.1, hoi.2.2.1, hx1⟩ (i * 3 + 2) (.string x) (ocells_set2 L i x hi) hlt (by omega)
          clear hE4 hE5 s4 g4 hd4 lL hoi hok
          go_wp2
          go_ret
          exact HF.out
        by_cases r4 : r3 = 3
        · subst r4
          obtain ⟨g', off, e, hgl, c0, c1, c2⟩ := (OB.of hE3.own) i hi
          simp only [Option.some.injEq, Addr.mk.injEq, and_true] at e
          obtain ⟨rfl, rfl⟩ := e
          obtain ⟨C, hC⟩ : ∃ C, L.getD i onil = C := ⟨_, rfl⟩
          obtain ⟨x0, x1, x2⟩ := C
          rw [hC] at c0 c1 c2 hoi
          simp only [Nat.zero_add] at c0 c1 c2
          have hE4 := hE3.bel (allocBelow w3 (.cells #[.string x0, .int .i64 x1, .string x2] 72))
          have nw := newX w3 (x0, x1, x2)
          have z5 : w.heap.size ≤ (w3.alloc (.cells #[.string x0, .int .i64 x1, .string x2] 72)).heap.size := by simp; omega
          clear hE3 hC
          go_wp2_with (at_builtin; refine wpList_appX rfl (.tmp 84) (.tmp 89) rfl w.heap.size (.slice (some ⟨g, 0, none⟩) L.length c) L rfl hE4.own _ _ [(x0, x1, x2)] rfl nw (by simp; omega) z5 ?_; intro v6 w6 o6 g6 n6 q6)
          have hl2 : (L ++ [(x0, x1, x2)]).length = L.length + 1 := by simp
          obtain ⟨g', c', rfl⟩ := ownedX o6 (by simp)
          have hge4 := hE4.src.ge
          have HF : Hid (EntPost N b a n cap k w (.returned (.slice (some ⟨g', 0, none⟩) (L ++ [(x0, x1, x2)]).length c')) w6) := ⟨L ++ [(x0, x1, x2)], g', c', _, rfl, by omega, fun z hz => by
            rcases List.mem_append.1 hz with q | q
            · exact hok z q
            · rw [List.mem_singleton.1 q]; exact hoi, o6, hE4.src.kept g6 (by rw [ownBlock_slice]; simp; omega) (fun j hj => by rw [ownBlock_slice] at hj; cases hj; omega), by have := hE4.hi; omega, grown_new hE4.gr g6 (fun j hj => by rw [ownBlock_slice] at hj; cases hj; omega)⟩
          generalize (L ++ [(x0, x1, x2)]).length = M at *
          clear hE4 o6 g6 n6 q6 nw c0 c1 c2 hok hoi
          go_wp2
          go_ret
          exact HF.out
        by_cases r5 : r3 = 4
        · subst r5
          obtain ⟨i0, hi0', hz0, hz1, hz2⟩ := info_parts infoObj
          go_wp2_with (at_make; refine wpList_make_full _ rfl _ _ 25 rfl w3.heap.size 72 i0 (.agg #[.string ⟨#[]⟩, .int .i64 0, .string ⟨#[]⟩]) 3 Tryz.underlying25 hi0' hz0 hz1 .i64 .i64 101 101 101 rfl rfl rfl rfl (by rw [hz2]; omega) (by unfold maxLen; omega) (Nat.le_refl _) ?_; intro w5 o5 g5)
          have o6 : TeR w3.heap.size w5 w3.heap.size 101 (List.replicate 101 onil) := by
            have e9 := madeX 101
            unfold TeR
            rw [List.length_replicate, ← e9]
            exact o5
          have hzz := hE3.src.lt
          have HF : Hid (EntPost N b a n cap k w (.returned (.slice (some ⟨w3.heap.size, 0, none⟩) 101 101)) w5) := ⟨List.replicate 101 onil, w3.heap.size, 101, _, by rw [List.length_replicate], by simp, fun z hz => by
            rw [(List.mem_replicate.1 hz).2]; exact EOk.nil, o6.mono (by omega), hE3.src.kept g5 (by simp) (fun j hj => by cases hj), by have := hE3.hi; omega, grown_new hE3.gr g5 (fun j hj => by cases hj)⟩
          clear hE3 o5 o6 g5
          go_wp2
          go_ret
          exact HF.out
        have q0 : (r3 == 0) = false := by simp [r0]
        have q1 : (r3 == 1) = false := by simp [r1]
        have q2 : (r3 == 2) = false := by simp [r2]
        have q3 : (r3 == 3) = false := by simp [r4]
        have q4 : (r3 == 4) = false := by simp [r5]
        have HF : Hid (EntPost N b a n cap k w (.returned (.slice (some ⟨g, 0, none⟩) L.length c)) w3) := ⟨L, g, c, _, rfl, by omega, hok, hE3.own, hE3.src, by have := hE3.hi; omega, hE3.gr⟩
        clear hE3 r0 r1 r2 r4 r5
        go_wp2
        go_ret
        exact HF.out
end Go.Proofs.YtijphomojljckaaGreatDoor.Te
