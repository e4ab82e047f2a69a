/- An index, as the specification draws it. No statement is proved here. -/
import Derived.Test.YtjcnnmnnbjaheaaGreatDoorRows
import Derived.Test.YtjcnnmnnbjaheaaGreatDoorLemQ
import Derived.Test.YtjcnnmnnbjaheaaGreatDoorLFLemQ
import Derived.Test.YtjcnnmnnbjaheaaGreatDoorDTabQ
import Derived.Test.YtjcnnmnnbjaheaaGreatDoorHkTQ
import Derived.Test.YtjcnnmnnbjaheaaGreatDoorFlLQ
import Derived.Test.YtjcnnmnnbjaheaaGreatDoorSgCQ
import Derived.Test.YtjcnnmnnbjaheaaGreatDoorDigCQ
import Derived.Test.YtjcnnmnnbjaheaaGreatDoorDrawQ
import Derived.Test.YtjcnnmnnbjaheaaGreatDoorPickCQ
import Derived.Test.YtjcnnmnnbjaheaaGreatDoorDraw30Q
import Derived.WalkKit
import Derived.ProofKit
import Derived.Below
import Derived.WalkSpells
import Derived.Maps.AppendAt
import Derived.Deep.QuietTactic
import Derived.BigQuiet
import Derived.Deep.RegionWith
import Derived.Deep.RegionHeld
import Derived.Deep.RegionHeldLaw
import Derived.Deep.Cut
import Derived.Deep.CutRange
import Derived.Deep.Onto
set_option linter.unusedVariables false
namespace Go.Proofs.YtjcnnmnnbjaheaaGreatDoor.En
open Go.ChangeShapes Go.WideShapes Go.ChangeAt Go.RowKit
set_option maxRecDepth 20000 in
set_option maxHeartbeats 8000000 in
theorem l10Draw (N b : Nat) (a : Option Addr) (n cap : Nat) (k : Int) (w : World) (h : Src N w b a n cap k) (hk : k ≤ 4294900000) :
    Calls Tryz.prog 18 #[.pointer (some ⟨b, 0, none⟩)] w fun e w' => EntPost N b a n cap k w e w' := by
  have hlt := h.lt
  have hge := h.ge
  have hk0 := h.lo
  go_enter Tryz.func18, Tryz.ntmps18
  go_wp2
  go_loopw [3, 5, 6] (fun v i _ wr => ∃ (m : Nat) (L : List Ob) (g c : Nat) (k' : Int), i = .int .i64 m ∧ v = .slice (some ⟨g, 0, none⟩) L.length c ∧ m ≤ 6 ∧ L.length ≤ 3 * m ∧ (∀ o ∈ L, EOk o) ∧
      EW N b w.heap.size (w.heap.size + 1) a n cap (k + 10 * m) w wr g c L k' ∧ g ≠ w.heap.size + 1 ∧ w.heap.size + 2 ≤ wr.heap.size) (fun _ i _ _ => (6 - intOf i).toNat)
  case atStart =>
    refine ⟨0, [], w.heap.size, 0, k, rfl, rfl, by omega, by simp, by simp, ⟨(litD w).alloc _, ?_, (h.below ((Below.refl _ _).alloc (Nat.le_refl _) _)).below ((Below.refl _ _).alloc (Nat.le_refl _) _), by omega, grT2 grA grA⟩, by omega, by simp⟩
    have := lit_new (w.alloc (.cells #[] 51)) [⟨#[97]⟩, ⟨#[98]⟩, ⟨#[100, 105, 114, 47, 97]⟩, ⟨#[100, 105, 114, 47, 98]⟩, ⟨#[108, 105, 98]⟩, ⟨#[120, 47, 121]⟩] 9 100 (by decide)
    simpa using this
  case round =>
    obtain ⟨m, L, g, c, k', rfl, rfl, hm, hL, hok, hE, hgn, hsz⟩ := hrel
    have hkk := hE.hi
    by_cases hpos : m < 6
    · have hp : (m : Int) < 6 := by omega
      go_wp2_with fail
      refine (l1Next N b a n cap k' 3 _ hE.src (by omega)).mono ?_; rintro e w1 ⟨r, rfl, hd, hs1, hg1⟩
      have hS1 := hg1.size
      have hE1 := hE.draw hs1 hg1 hlt (by omega) (k + 10 * m + 1) (by omega)
      have hgl1 := (hE1.own.lt g rfl).2
      have hd0 := hd.1
      have hd1 : r < 3 := hd.2.1 (by omega)
      clear hE hs1 hg1 hd
      by_cases r0 : r = 0
      · subst r0
        obtain ⟨x, hx, hx1⟩ := hE1.nm m hpos
        obtain ⟨C3, hC3⟩ : ∃ C, Obj.cells #[.int .i64 1, .int .i64 1, .int .i64 2] 2 = C := ⟨_, rfl⟩
        have bA : Below w1.heap.size w1 (w1.alloc C3).drew := ((Below.refl _ _).alloc (Nat.le_refl _) _).drew
        have EA := hE1.bel bA
        have hS1' : w1.heap.size < (w1.alloc C3).drew.heap.size := by simp
        have hlC : ∀ j, j < 3 → ∃ v : Int, (w1.alloc C3).drew.cell? ⟨w1.heap.size, j, none⟩ = some (.int .i64 v) ∧ True := by
          intro j hj
          have q := Rs.new w1 #[.int .i64 1, .int .i64 1, .int .i64 2] 2 j
          rw [hC3] at q
          have hj3 : j = 0 ∨ j = 1 ∨ j = 2 := by omega
          rcases hj3 with rfl | rfl | rfl
          · exact ⟨1, q _ rfl, trivial⟩
          · exact ⟨1, q _ rfl, trivial⟩
          · exact ⟨2, q _ rfl, trivial⟩
        have hPk := l1Pick N b a n cap _ w1.heap.size 3 3 (fun _ => True) (w1.alloc C3).drew EA.src (by omega) (by omega) (by omega) (by omega) hS1' hlC
        have hxd : w1.drew.cell? ⟨w.heap.size + 1, m, none⟩ = some (.string x) := hx
        have hxA : (w1.alloc C3).drew.cell? ⟨w.heap.size + 1, m, none⟩ = some (.string x) := (grBE bA none).cell hx (by simp)
        have hnb : some (w.heap.size + 1) ≠ some b := by simp; omega
        obtain ⟨i0, hi, hz0, hz1, hz2⟩ := info_parts infoObj
        have hm1 : L.length + 1 ≤ maxLen := by unfold maxLen; omega
        have hm2 : (L.length + 1) * 48 ≤ 140737488355328 := by omega
        clear hlC bA hS1'
        go_wp2_with fail
        go_region_held_law (fun w' => w'.cell? ⟨w.heap.size + 1, m, none⟩ = some (.string x)) (first | with_reducible exact hxd | with_reducible exact hxA | with_reducible exact hxB | with_reducible exact hxC | with_reducible exact hxD | with_reducible exact hxE | exact hxd | exact hxA | exact hxD)
          ((first
            | (refine stepApp rfl (.tmp 20) (.tmp 32) 25 rfl w.heap.size 51 i0 (.agg #[.string ⟨#[]⟩, .int .i64 0, .int .i64 0, .string ⟨#[]⟩]) 4 48 Tryz.underlying25 hi hz0 hz1 hz2 rfl (by decide) (.slice (some ⟨g, 0, none⟩) L.length c) _ _ rfl ED.own ⟨w4.heap.size, 0, none⟩ 1 _ (ocells [(x, 0, xm, idN 1 z)]) rfl (ocells_length _) nw (oneE _) hm1 hm2 zD ?_; intro v5 w5 o5 g5 n5; have hxE := g5.cell hxD (by rw [ownBlock_slice]; simp; omega))
            | (go_at_call 39; refine hPk.mono ?_; rintro e w2 ⟨xm, rfl, _, s2, g2⟩; have EB := EA.draw s2 g2 hlt (by omega) (k + 10 * m + 2) (by omega); have hxB := g2.cell hxA hnb)
            | (go_at_call 41; refine (l1Word N b a n cap _ _ EB.src (by omega)).mono ?_; rintro e w3 ⟨z, rfl, hz, s3, g3⟩; have EC := EB.draw s3 g3 hlt (by omega) (k + 10 * m + 3) (by omega); have hxC := g3.cell hxB hnb)
            | (go_at_call 40; refine (l5Id 1 z _ rfl (by omega)).mono ?_; rintro e w4 ⟨rfl, rfl⟩; have hz4 := (EC.own.lt g rfl); have ED := EC.bel (allocBelow w4 (.cells #[.string x, .int .i64 0, .int .i64 xm, .string (idN 1 z)] 51)); have nw := newE w4 (x, 0, xm, idN 1 z); have zD : w.heap.size ≤ (w4.alloc (.cells #[.string x, .int .i64 0, .int .i64 xm, .string (idN 1 z)] 51)).heap.size := (by simp; omega); have hxD := (grBE (allocBelow w4 (.cells #[.string x, .int .i64 0, .int .i64 xm, .string (idN 1 z)] 51)) none).cell hxC (by simp))))
        all_goals
          have hgl := ED.own.lt g rfl
          have o6 : w5.ownsRow w.heap.size 51 4 v5 (L ++ [(x, 0, xm, idN 1 z)]).length (ocells (L ++ [(x, 0, xm, idN 1 z)])) := by rw [List.length_append, ocells_app]; exact o5
          obtain ⟨g', c', rfl⟩ := ownedD o6 (by simp)
          have q6 : g' = g ∨ g' = w4.heap.size + 1 := by
            rcases n5 with q | q
            · rw [ownBlock_slice, ownBlock_slice] at q; exact .inl (Option.some.inj q)
            · rw [ownBlock_slice, World.size_alloc] at q; exact .inr (Option.some.inj q)
          have hS6 : w4.heap.size + 1 ≤ w5.heap.size := by have := g5.size; rw [World.size_alloc] at this; exact this
          have hS4 : w.heap.size + 2 ≤ w4.heap.size := by have := g3.size; have := g2.size; rw [World.size_drew, World.size_alloc] at this; omega
          have EF : EW N b w.heap.size (w.heap.size + 1) a n cap (k + 10 * m + 3) w w5 g' c' (L ++ [(x, 0, xm, idN 1 z)]) ((k' + 1) + 1 + 1) :=
            ⟨o6, ED.nm.kept g5 (by rw [ownBlock_slice]; simp; omega), ED.src.kept g5 (by rw [ownBlock_slice]; simp; omega) (fun j hj => by rw [ownBlock_slice] at hj; cases hj; omega), by omega, grown_new ED.gr g5 (fun j hj => by rw [ownBlock_slice] at hj; cases hj; omega)⟩
          have hok' : ∀ o ∈ L ++ [(x, 0, xm, idN 1 z)], EOk o := fun o ho => by
            rcases List.mem_append.1 ho with h1 | h1
            · exact hok o h1
            · rw [List.mem_singleton] at h1; subst h1; exact ⟨hx1, by show (idN 1 z).size ≤ 100; rw [idN_szD]; omega⟩
          have hll : (L ++ [(x, 0, xm, idN 1 z)]).length = L.length + 1 := by simp
          have hgn' : g' ≠ w.heap.size + 1 := by omega
          clear o5 o6 g5 n5 ED EC EB EA nw hxA hxB hxC hxD hxE hxd hPk s2 g2 s3 g3
        all_goals
          clear hE1
          go_wp2_with fail
          go_roundw
          case rel =>
            exact ⟨m + 1, L ++ [(x, 0, xm, idN 1 z)], g', c', _, by go_num, (by rw [hll]), by omega, by omega, hok', EF.more (by omega), hgn', by omega⟩
          case measure => simp [intOf]; omega
      · have q0 : (r == 0) = false := by simpa using r0
        by_cases r1 : r = 1
        · subst r1
          obtain ⟨V1, rfl⟩ : ∃ V, V = w1 := ⟨_, rfl⟩
          clear q0 r0
          go_wp2
          go_loopw [3, 6] (fun v i wr => ∃ (t : Nat) (L : List Ob) (g c : Nat) (k' : Int), i = .int .i64 t ∧ v = .slice (some ⟨g, 0, none⟩) L.length c ∧ 1 ≤ t ∧ t ≤ 4 ∧ L.length + 1 ≤ 3 * m + t ∧ (∀ o ∈ L, EOk o) ∧
              EW N b w.heap.size (w.heap.size + 1) a n cap (k + 10 * m + 1 + 3 * (t - 1)) w wr g c L k' ∧ g ≠ w.heap.size + 1 ∧ w.heap.size + 2 ≤ wr.heap.size) (fun _ i _ => (4 - intOf i).toNat)
          case atStart => exact ⟨1, L, g, c, k' + 1, rfl, rfl, by omega, by omega, by omega, hok, hE1.more (by omega), hgn, by omega⟩
          case round =>
            clear hE1 hok hL hgn
            obtain ⟨t, L, g, c, k9, rfl, rfl, ht1, ht4, hL, hok, hE, hgn, hsz⟩ := hrel
            have hkk := hE.hi
            by_cases htp : t < 4
            · have htp' : (t : Int) < 4 := by omega
              go_wp2_with fail
              refine (l1Chance N b a n cap k9 4 _ hE.src (by omega)).mono ?_; rintro e w1 ⟨r, rfl, hs1, hg1⟩
              have hS1 := hg1.size
              have hE1 := hE.draw hs1 hg1 hlt (by omega) (k + 10 * m + 1 + 3 * (t - 1) + 1) (by omega)
              have hgl1 := (hE1.own.lt g rfl).2
              clear hE hs1 hg1
              cases r with
              | true =>
                go_wp2_with fail
                go_roundw
                case rel => exact ⟨t + 1, L, g, c, _, by go_num, rfl, by omega, by omega, by omega, hok, hE1.more (by omega), hgn, by omega⟩
                case measure => simp [intOf]; omega
              | false =>
                obtain ⟨x, hx, hx1⟩ := hE1.nm m hpos
                obtain ⟨C3, hC3⟩ : ∃ C, Obj.cells #[.int .i64 1, .int .i64 1, .int .i64 2] 2 = C := ⟨_, rfl⟩
                have bA : Below w1.heap.size w1 (w1.alloc C3).drew := ((Below.refl _ _).alloc (Nat.le_refl _) _).drew
                have EA := hE1.bel bA
                have hS1' : w1.heap.size < (w1.alloc C3).drew.heap.size := by simp
                have hlC : ∀ j, j < 3 → ∃ v : Int, (w1.alloc C3).drew.cell? ⟨w1.heap.size, j, none⟩ = some (.int .i64 v) ∧ True := by
                  intro j hj
                  have q := Rs.new w1 #[.int .i64 1, .int .i64 1, .int .i64 2] 2 j
                  rw [hC3] at q
                  have hj3 : j = 0 ∨ j = 1 ∨ j = 2 := by omega
                  rcases hj3 with rfl | rfl | rfl
                  · exact ⟨1, q _ rfl, trivial⟩
                  · exact ⟨1, q _ rfl, trivial⟩
                  · exact ⟨2, q _ rfl, trivial⟩
                have hPk := l1Pick N b a n cap _ w1.heap.size 3 3 (fun _ => True) (w1.alloc C3).drew EA.src (by omega) (by omega) (by omega) (by omega) hS1' hlC
                have hxd : w1.drew.cell? ⟨w.heap.size + 1, m, none⟩ = some (.string x) := hx
                have hxA : (w1.alloc C3).drew.cell? ⟨w.heap.size + 1, m, none⟩ = some (.string x) := (grBE bA none).cell hx (by simp)
                have hnb : some (w.heap.size + 1) ≠ some b := by simp; omega
                obtain ⟨i0, hi, hz0, hz1, hz2⟩ := info_parts infoObj
                have hm1 : L.length + 1 ≤ maxLen := by unfold maxLen; omega
                have hm2 : (L.length + 1) * 48 ≤ 140737488355328 := by omega
                clear hlC bA hS1'
                go_wp2_with fail
                go_region_held_law (fun w' => w'.cell? ⟨w.heap.size + 1, m, none⟩ = some (.string x)) (first | with_reducible exact hxd | with_reducible exact hxA | with_reducible exact hxB | with_reducible exact hxC | with_reducible exact hxD | with_reducible exact hxE | exact hxd | exact hxA | exact hxD)
                  ((first
                    | (refine stepApp rfl (.tmp 43) (.tmp 56) 25 rfl w.heap.size 51 i0 (.agg #[.string ⟨#[]⟩, .int .i64 0, .int .i64 0, .string ⟨#[]⟩]) 4 48 Tryz.underlying25 hi hz0 hz1 hz2 rfl (by decide) (.slice (some ⟨g, 0, none⟩) L.length c) _ _ rfl ED.own ⟨w4.heap.size, 0, none⟩ 1 _ (ocells [(x, (t : Int), xm, idN 1 z)]) rfl (ocells_length _) nw (oneE _) hm1 hm2 zD ?_; intro v5 w5 o5 g5 n5; have hxE := g5.cell hxD (by rw [ownBlock_slice]; simp; omega))
                    | (go_at_call 39; refine hPk.mono ?_; rintro e w2 ⟨xm, rfl, _, s2, g2⟩; have EB := EA.draw s2 g2 hlt (by omega) (k + 10 * m + 1 + 3 * (t - 1) + 2) (by omega); have hxB := g2.cell hxA hnb)
                    | (go_at_call 41; refine (l1Word N b a n cap _ _ EB.src (by omega)).mono ?_; rintro e w3 ⟨z, rfl, hz, s3, g3⟩; have EC := EB.draw s3 g3 hlt (by omega) (k + 10 * m + 1 + 3 * (t - 1) + 3) (by omega); have hxC := g3.cell hxB hnb)
                    | (go_at_call 40; refine (l5Id 1 z _ rfl (by omega)).mono ?_; rintro e w4 ⟨rfl, rfl⟩; have hz4 := (EC.own.lt g rfl); have ED := EC.bel (allocBelow w4 (.cells #[.string x, .int .i64 (t : Int), .int .i64 xm, .string (idN 1 z)] 51)); have nw := newE w4 (x, (t : Int), xm, idN 1 z); have zD : w.heap.size ≤ (w4.alloc (.cells #[.string x, .int .i64 (t : Int), .int .i64 xm, .string (idN 1 z)] 51)).heap.size := (by simp; omega); have hxD := (grBE (allocBelow w4 (.cells #[.string x, .int .i64 (t : Int), .int .i64 xm, .string (idN 1 z)] 51)) none).cell hxC (by simp))))
                all_goals
                  have hgl := ED.own.lt g rfl
                  have o6 : w5.ownsRow w.heap.size 51 4 v5 (L ++ [(x, (t : Int), xm, idN 1 z)]).length (ocells (L ++ [(x, (t : Int), xm, idN 1 z)])) := by rw [List.length_append, ocells_app]; exact o5
                  obtain ⟨g', c', rfl⟩ := ownedD o6 (by simp)
                  have q6 : g' = g ∨ g' = w4.heap.size + 1 := by
                    rcases n5 with q | q
                    · rw [ownBlock_slice, ownBlock_slice] at q; exact .inl (Option.some.inj q)
                    · rw [ownBlock_slice, World.size_alloc] at q; exact .inr (Option.some.inj q)
                  have hS6 : w4.heap.size + 1 ≤ w5.heap.size := by have := g5.size; rw [World.size_alloc] at this; exact this
                  have hS4 : w.heap.size + 2 ≤ w4.heap.size := by have := g3.size; have := g2.size; rw [World.size_drew, World.size_alloc] at this; omega
                  have EF : EW N b w.heap.size (w.heap.size + 1) a n cap (k + 10 * m + 1 + 3 * (t - 1) + 3) w w5 g' c' (L ++ [(x, (t : Int), xm, idN 1 z)]) ((k9 + 1) + 1 + 1) :=
                    ⟨o6, ED.nm.kept g5 (by rw [ownBlock_slice]; simp; omega), ED.src.kept g5 (by rw [ownBlock_slice]; simp; omega) (fun j hj => by rw [ownBlock_slice] at hj; cases hj; omega), by omega, grown_new ED.gr g5 (fun j hj => by rw [ownBlock_slice] at hj; cases hj; omega)⟩
                  have hok' : ∀ o ∈ L ++ [(x, (t : Int), xm, idN 1 z)], EOk o := fun o ho => by
                    rcases List.mem_append.1 ho with h1 | h1
                    · exact hok o h1
                    · rw [List.mem_singleton] at h1; subst h1; exact ⟨hx1, by show (idN 1 z).size ≤ 100; rw [idN_szD]; omega⟩
                  have hll : (L ++ [(x, (t : Int), xm, idN 1 z)]).length = L.length + 1 := by simp
                  have hgn' : g' ≠ w.heap.size + 1 := by omega
                  clear o5 o6 g5 n5 ED EC EB EA nw hxA hxB hxC hxD hxE hxd hPk s2 g2 s3 g3
                all_goals
                  clear hE1
                  go_wp2_with fail
                  go_roundw
                  case rel => exact ⟨t + 1, L ++ [(x, (t : Int), xm, idN 1 z)], g', c', _, by go_num, (by rw [hll]), by omega, by omega, by omega, hok', EF.more (by omega), hgn', by omega⟩
                  case measure => simp [intOf]; omega
            · have htp' : ¬ (t : Int) < 4 := by omega
              go_wp2_with fail
              go_roundw
              case rel => exact ⟨m + 1, L, g, c, k9, by go_num, rfl, by omega, by omega, hok, hE.more (by omega), hgn, by omega⟩
              case measure => simp [intOf]; omega
        · have q1 : (r == 1) = false := by simpa using r1
          go_wp2_with fail
          go_roundw
          case rel => exact ⟨m + 1, L, g, c, k' + 1, by go_num, rfl, by omega, by omega, hok, hE1.more (by omega), hgn, by omega⟩
          case measure => simp [intOf]; omega
    · have hp : ¬ (m : Int) < 6 := by omega
      by_cases hl0 : L.length = 0
      · have hl0' : ((L.length : Int) == 0) = true := by simp [hl0]
        go_wp2_with fail
        go_ret
        exact ⟨L, g, c, k', by rw [hl0]; rfl, by omega, hok, hE.own, hE.src, by omega, hE.gr⟩
      · have hl0' : ((L.length : Int) == 0) = false := by simp; intro h; exact hl0 (by simp [h])
        go_wp2_with fail
        refine (l1Next N b a n cap k' L.length _ hE.src (by omega)).mono ?_; rintro e w2 ⟨r2, rfl, hd2, s2, g2⟩
        have hS2 := g2.size
        have hE2 := hE.draw s2 g2 hlt (by omega) (k + 10 * m + 1) (by omega)
        have hi0 := hd2.1
        have hi1 : r2 < L.length := hd2.2.1 (by omega)
        obtain ⟨i, rfl⟩ := Int.eq_ofNat_of_zero_le hi0
        clear hE s2 hd2
        go_wp2_with fail
        refine (l1Next N b a n cap (k' + 1) 24 _ hE2.src (by omega)).mono ?_; rintro e w3 ⟨r3, rfl, hd3, s3, g3⟩
        have hS3 := g3.size
        have hE3 := hE2.draw s3 g3 hlt (by omega) (k + 10 * m + 2) (by omega)
        clear hE2 s3
        have hgr := hE3.own.lt g rfl
        have hi : i < L.length := by omega
        have hk3 := hE3.hi
        have hL6 : L.length ≤ 18 := by omega
        have hoi := hok _ (getD_memX L i hi)
        have hd30 := hd3.1
        clear hd3 g3 g2 hl0 hl0' hp hpos
        by_cases r0 : r3 = 0
        · subst r0
          have lL := lit_new w3 [(⟨#[]⟩ : ByteArray), (⟨#[65]⟩ : ByteArray), (⟨#[122, 122]⟩ : ByteArray), (⟨#[108, 105, 98, 47, 113]⟩ : ByteArray)] 9 100 (by decide)
          simp only [List.map_cons, List.map_nil, List.length_cons, List.length_nil, Nat.zero_add, Nat.reduceAdd] at lL
          have hE4 := hE3.bel (allocBelow w3 (.cells #[.string ⟨#[]⟩, .string ⟨#[65]⟩, .string ⟨#[122, 122]⟩, .string ⟨#[108, 105, 98, 47, 113]⟩] 9))
          clear hE3
          go_wp2_with fail
          refine (l1Next N b a n cap _ 4 _ hE4.src (by omega)).mono ?_; rintro e w4 ⟨r4, rfl, hd4, s4, g4⟩
          have hE5 := hE4.draw s4 g4 hlt (by omega) (k + 10 * m + 3) (by omega)
          have hd40 := hd4.1
          have hd41 : r4 < 4 := hd4.2.1 (by omega)
          obtain ⟨j, rfl⟩ := Int.eq_ofNat_of_zero_le hd40
          obtain ⟨x, hx, hx1⟩ := (lL.kept g4 (by simp; omega)) j (by omega)
          have hi3 : i * 4 < L.length * 4 := by omega
          have k0 := hE5.own.cellAt (i * 4) hi3
          rw [ocells, rowG_at _ _ _ hi3] at k0
          have f0 := hE5.own.frozenAt (i * 4)
          have HF : Hid (EntPost N b a n cap k w (.returned (.slice (some ⟨g, 0, none⟩) L.length c)) (w4.setCell ⟨g, i * 4, none⟩ (.string x))) := hE5.put hL6 hok i (x, (L.getD i onil).2) ⟨hx1, hoi.2⟩ (i * 4) (.string x) (ocells_setD0 L i x hi) hlt (by omega)
          clear hE4 hE5 s4 g4 hd4 lL hoi hok
          go_wp2
          go_ret
          exact HF.out
        by_cases r1 : r3 = 1
        · subst r1
          have hE4 := hE3.bel (allocBelow w3 (.cells #[.int .i64 (-1), .int .i64 4, .int .i64 0, .int .i64 3] 2))
          have hl : ∀ j, j < 4 → ∃ v : Int, (w3.alloc (.cells #[.int .i64 (-1), .int .i64 4, .int .i64 0, .int .i64 3] 2)).cell? ⟨w3.heap.size, j, none⟩ = some (.int .i64 v) ∧ True := by
            intro j hj
            have q := Rs.new w3 #[.int .i64 (-1), .int .i64 4, .int .i64 0, .int .i64 3] 2 j
            have hj4 : j = 0 ∨ j = 1 ∨ j = 2 ∨ j = 3 := by omega
            rcases hj4 with rfl | rfl | rfl | rfl
            · exact ⟨-1, q _ rfl, trivial⟩
            · exact ⟨4, q _ rfl, trivial⟩
            · exact ⟨0, q _ rfl, trivial⟩
            · exact ⟨3, q _ rfl, trivial⟩
          clear hE3
          go_wp2_with fail
          refine (l1Pick N b a n cap _ w3.heap.size 4 4 (fun _ => True) _ hE4.src (by omega) (by omega) (by omega) (by omega) (by simp) hl).mono ?_; rintro e w4 ⟨x, rfl, hx1, s4, g4⟩
          have hE5 := hE4.draw s4 g4 hlt (by omega) (k + 10 * m + 3) (by omega)
          have hi3 : i * 4 + 1 < L.length * 4 := by omega
          have k0 := hE5.own.cellAt (i * 4 + 1) hi3
          rw [ocells, rowG_at _ _ _ hi3] at k0
          have f0 := hE5.own.frozenAt (i * 4 + 1)
          have HF : Hid (EntPost N b a n cap k w (.returned (.slice (some ⟨g, 0, none⟩) L.length c)) (w4.setCell ⟨g, i * 4 + 1, none⟩ (.int .i64 x))) := hE5.put hL6 hok i ((L.getD i onil).1, x, (L.getD i onil).2.2) hoi (i * 4 + 1) (.int .i64 x) (ocells_setD1 L i x hi) hlt (by omega)
          clear hE4 hE5 s4 g4 hl hoi hok
          go_wp2
          go_ret
          exact HF.out
        by_cases r2 : r3 = 2
        · subst r2
          have hE4 := hE3.bel (allocBelow w3 (.cells #[.int .i64 0, .int .i64 3] 2))
          have hl : ∀ j, j < 2 → ∃ v : Int, (w3.alloc (.cells #[.int .i64 0, .int .i64 3] 2)).cell? ⟨w3.heap.size, j, none⟩ = some (.int .i64 v) ∧ True := by
            intro j hj
            have q := Rs.new w3 #[.int .i64 0, .int .i64 3] 2 j
            have hj4 : j = 0 ∨ j = 1 := by omega
            rcases hj4 with rfl | rfl
            · exact ⟨0, q _ rfl, trivial⟩
            · exact ⟨3, q _ rfl, trivial⟩
          clear hE3
          go_wp2_with fail
          refine (l1Pick N b a n cap _ w3.heap.size 2 2 (fun _ => True) _ hE4.src (by omega) (by omega) (by omega) (by omega) (by simp) hl).mono ?_; rintro e w4 ⟨x, rfl, hx1, s4, g4⟩
          have hE5 := hE4.draw s4 g4 hlt (by omega) (k + 10 * m + 3) (by omega)
          have hi3 : i * 4 + 2 < L.length * 4 := by omega
          have k0 := hE5.own.cellAt (i * 4 + 2) hi3
          rw [ocells, rowG_at _ _ _ hi3] at k0
          have f0 := hE5.own.frozenAt (i * 4 + 2)
          have HF : Hid (EntPost N b a n cap k w (.returned (.slice (some ⟨g, 0, none⟩) L.length c)) (w4.setCell ⟨g, i * 4 + 2, none⟩ (.int .i64 x))) := hE5.put hL6 hok i ((L.getD i onil).1, (L.getD i onil).2.1, x, (L.getD i onil).2.2.2) hoi (i * 4 + 2) (.int .i64 x) (ocells_setD2 L i x hi) hlt (by omega)
          clear hE4 hE5 s4 g4 hl hoi hok
          go_wp2
          go_ret
          exact HF.out
        by_cases r3_ : r3 = 3
        · subst r3_
          have lL := lit_new w3 [(⟨#[]⟩ : ByteArray), (⟨#[116, 48, 48, 48, 48]⟩ : ByteArray), (⟨#[98, 48, 48, 48]⟩ : ByteArray)] 9 100 (by decide)
          simp only [List.map_cons, List.map_nil, List.length_cons, List.length_nil, Nat.zero_add, Nat.reduceAdd] at lL
          have hE4 := hE3.bel (allocBelow w3 (.cells #[.string ⟨#[]⟩, .string ⟨#[116, 48, 48, 48, 48]⟩, .string ⟨#[98, 48, 48, 48]⟩] 9))
          clear hE3
          go_wp2_with fail
          refine (l1Next N b a n cap _ 3 _ hE4.src (by omega)).mono ?_; rintro e w4 ⟨r4, rfl, hd4, s4, g4⟩
          have hE5 := hE4.draw s4 g4 hlt (by omega) (k + 10 * m + 3) (by omega)
          have hd40 := hd4.1
          have hd41 : r4 < 3 := hd4.2.1 (by omega)
          obtain ⟨j, rfl⟩ := Int.eq_ofNat_of_zero_le hd40
          obtain ⟨x, hx, hx1⟩ := (lL.kept g4 (by simp; omega)) j (by omega)
          have hi3 : i * 4 + 3 < L.length * 4 := by omega
          have k0 := hE5.own.cellAt (i * 4 + 3) hi3
          rw [ocells, rowG_at _ _ _ hi3] at k0
          have f0 := hE5.own.frozenAt (i * 4 + 3)
          have HF : Hid (EntPost N b a n cap k w (.returned (.slice (some ⟨g, 0, none⟩) L.length c)) (w4.setCell ⟨g, i * 4 + 3, none⟩ (.string x))) := hE5.put hL6 hok i ((L.getD i onil).1, (L.getD i onil).2.1, (L.getD i onil).2.2.1, x) ⟨hoi.1, hx1⟩ (i * 4 + 3) (.string x) (ocells_setD3 L i x hi) hlt (by omega)
          clear hE4 hE5 s4 g4 hd4 lL hoi hok
          go_wp2
          go_ret
          exact HF.out
        by_cases r4 : r3 = 4
        · subst r4
          obtain ⟨g', off, e, hgl, c0, c1, c2, c3⟩ := (OB.of hE3.own) i hi
          simp only [Option.some.injEq, Addr.mk.injEq, and_true] at e
          obtain ⟨rfl, rfl⟩ := e
          obtain ⟨C, hC⟩ : ∃ C, L.getD i onil = C := ⟨_, rfl⟩
          obtain ⟨x0, x1, x2, x3⟩ := C
          rw [hC] at c0 c1 c2 c3 hoi
          simp only [Nat.zero_add] at c0 c1 c2 c3
          have hE4 := hE3.bel (allocBelow w3 (.cells #[.string x0, .int .i64 x1, .int .i64 x2, .string x3] 51))
          have nw := newE w3 (x0, x1, x2, x3)
          have z5 : w.heap.size ≤ (w3.alloc (.cells #[.string x0, .int .i64 x1, .int .i64 x2, .string x3] 51)).heap.size := by simp; omega
          clear hE3 hC
          go_wp2_with (at_builtin; refine wpList_appE rfl (.tmp 110) (.tmp 115) rfl w.heap.size (.slice (some ⟨g, 0, none⟩) L.length c) L rfl hE4.own _ _ [(x0, x1, x2, x3)] rfl nw (by simp; omega) z5 ?_; intro v6 w6 o6 g6 n6 q6)
          have hl2 : (L ++ [(x0, x1, x2, x3)]).length = L.length + 1 := by simp
          obtain ⟨g', c', rfl⟩ := ownedD o6 (by simp)
          have hge4 := hE4.src.ge
          have HF : Hid (EntPost N b a n cap k w (.returned (.slice (some ⟨g', 0, none⟩) (L ++ [(x0, x1, x2, x3)]).length c')) w6) := ⟨L ++ [(x0, x1, x2, x3)], g', c', _, rfl, by omega, fun z hz => by
            rcases List.mem_append.1 hz with q | q
            · exact hok z q
            · rw [List.mem_singleton.1 q]; exact hoi, o6, hE4.src.kept g6 (by rw [ownBlock_slice]; simp; omega) (fun j hj => by rw [ownBlock_slice] at hj; cases hj; omega), by have := hE4.hi; omega, grown_new hE4.gr g6 (fun j hj => by rw [ownBlock_slice] at hj; cases hj; omega)⟩
          generalize (L ++ [(x0, x1, x2, x3)]).length = M at *
          clear hE4 o6 g6 n6 q6 nw c0 c1 c2 c3 hok hoi
          go_wp2
          go_ret
          exact HF.out
        by_cases r5 : r3 = 5
        · subst r5
          go_wp2_with fail
          refine (l1Chance N b a n cap _ 4 _ hE3.src (by omega)).mono ?_; rintro e w4 ⟨r4, rfl, s4, g4⟩
          have hS4 := g4.size
          have hE4 := hE3.draw s4 g4 hlt (by omega) (k + 10 * m + 3) (by omega)
          clear hE3 s4 g4
          cases r4 with
          | true =>
            obtain ⟨i0, hi0', hz0, hz1, hz2⟩ := info_parts infoObj
            go_wp2_with (at_make; refine wpList_make_full _ rfl _ _ 25 rfl w4.heap.size 51 i0 (.agg #[.string ⟨#[]⟩, .int .i64 0, .int .i64 0, .string ⟨#[]⟩]) 4 Tryz.underlying25 hi0' hz0 hz1 .i64 .i64 201 201 201 rfl rfl rfl rfl (by rw [hz2]; omega) (by unfold maxLen; omega) (Nat.le_refl _) ?_; intro w5 o5 g5)
            have o6 : EnR w4.heap.size w5 w4.heap.size 201 (List.replicate 201 onil) := by
              have e9 := madeD 201
              unfold EnR
              rw [List.length_replicate, ← e9]
              exact o5
            have hzz := hE4.src.lt
            have HF : Hid (EntPost N b a n cap k w (.returned (.slice (some ⟨w4.heap.size, 0, none⟩) 201 201)) w5) := ⟨List.replicate 201 onil, w4.heap.size, 201, _, by rw [List.length_replicate], by simp, fun z hz => by
              rw [(List.mem_replicate.1 hz).2]; exact EOk.nil, o6.mono (by omega), hE4.src.kept g5 (by simp) (fun j hj => by cases hj), by have := hE4.hi; omega, grown_new hE4.gr g5 (fun j hj => by cases hj)⟩
            clear hE4 o5 o6 g5
            go_wp2
            go_ret
            exact HF.out
          | false =>
            have HF : Hid (EntPost N b a n cap k w (.returned (.slice (some ⟨g, 0, none⟩) L.length c)) w4) := ⟨L, g, c, _, rfl, by omega, hok, hE4.own, hE4.src, by have := hE4.hi; omega, hE4.gr⟩
            clear hE4
            go_wp2
            go_ret
            exact HF.out
        have q0 : (r3 == 0) = false := by simp [r0]
        have q1 : (r3 == 1) = false := by simp [r1]
        have q2 : (r3 == 2) = false := by simp [r2]
        have q3 : (r3 == 3) = false := by simp [r3_]
        have q4 : (r3 == 4) = false := by simp [r4]
        have q5 : (r3 == 5) = false := by simp [r5]
        have HF : Hid (EntPost N b a n cap k w (.returned (.slice (some ⟨g, 0, none⟩) L.length c)) w3) := ⟨L, g, c, _, rfl, by omega, hok, hE3.own, hE3.src, by have := hE3.hi; omega, hE3.gr⟩
        clear hE3 r0 r1 r2 r3_ r4 r5
        go_wp2
        go_ret
        exact HF.out
end Go.Proofs.YtjcnnmnnbjaheaaGreatDoor.En
