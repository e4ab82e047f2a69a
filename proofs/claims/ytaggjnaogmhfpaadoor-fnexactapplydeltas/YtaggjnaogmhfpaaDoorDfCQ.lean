/- The contract of impl.cloneFile. No statement is proved here. -/
import Derived.Test.YtaggjnaogmhfpaaDoorRows
import Derived.Test.YtaggjnaogmhfpaaDoorLemQ
import Derived.Test.YtaggjnaogmhfpaaDoorDTabQ
import Derived.Test.YtaggjnaogmhfpaaDoorInQ
import Derived.Test.YtaggjnaogmhfpaaDoorShelfQ
import Derived.Test.YtaggjnaogmhfpaaDoorFlLQ
import Derived.WalkKit
import Derived.ProofKit
import Derived.Below
import Derived.WalkSpells
import Derived.Deep.QuietTactic
import Derived.BigQuiet
import Derived.Deep.RegionWith
import Derived.Deep.RegionHeld
import Derived.Deep.CutRange
import Derived.Maps.AppendAt
import Derived.Laws.Cover1
namespace Go.Proofs.YtaggjnaogmhfpaaDoor.Fl
open Go.ChangeShapes Go.WideShapes Go.ChangeAt Go.RowKit
theorem setCell_id {w : World} {b i : Nat} {v : Value} (h : w.cell? ⟨b, i, none⟩ = some v) : w.setCell ⟨b, i, none⟩ v = w := by
  have hh : (w.setCell ⟨b, i, none⟩ v).heap = w.heap := by
    apply Array.ext_getElem?
    intro k
    by_cases e : b = k
    · subst e
      cases ho : w.heap[b]? with
      | none => simp [World.setCell, Array.getElem?_modify, ho]
      | some o =>
        cases o with
        | cells c t fr =>
          have hc : c[i]? = some v := by simpa [World.cell?, ho] using h
          have hs : c.setIfInBounds i v = c := by
            apply Array.ext_getElem?
            intro j
            rw [Array.getElem?_setIfInBounds]
            by_cases q : i = j
            · subst q
              rw [if_pos rfl, hc, if_pos (Array.getElem?_eq_some_iff.1 hc).1]
            · rw [if_neg q]
          simp [World.setCell, Array.getElem?_modify, ho, hs]
        | _ => simp [World.setCell, Array.getElem?_modify, ho]
    · simp [World.setCell, Array.getElem?_modify, e]
  cases w
  simp only [World.setCell] at hh ⊢
  rw [hh]
set_option maxRecDepth 20000 in
set_option maxHeartbeats 4000000 in
theorem cloneFileC (o : Ob) (w : World) (h0 : o.1.size ≤ 1048576) (h2 : o.2.2.size ≤ 1048576) : Calls Tryd.prog 32 #[.agg #[.string o.1, .int .i64 o.2.1, .string o.2.2]] w fun e w' => e = .returned (.agg #[.string o.1, .int .i64 o.2.1, .string o.2.2]) ∧ Below w.heap.size w w' := by
  obtain ⟨x0, x1, x2⟩ := o
  simp only [] at h0 h2 ⊢
  have hC0 := fun W => cloneS x0 W (by omega)
  have hC2 := fun W => cloneS x2 W (by omega)
  obtain ⟨W, hW⟩ : ∃ W, (w.alloc (.cells #[.string x0, .int .i64 x1, .string x2] 52)).alloc (.cells #[.string ⟨#[]⟩, .int .i64 0, .string ⟨#[]⟩] 52) = W := ⟨_, rfl⟩
  have B : Below w.heap.size w W := by rw [← hW]; exact ((Below.refl _ _).alloc (Nat.le_refl _) _).alloc (by simp) _
  have z1 : w.heap.size + 1 < W.heap.size := by rw [← hW]; simp
  have ra : Rf (w.alloc (.cells #[.string x0, .int .i64 x1, .string x2] 52)) w.heap.size [.string x0, .int .i64 x1, .string x2] := Rf.new _ _ _
  have ra : Rf W w.heap.size [.string x0, .int .i64 x1, .string x2] := by rw [← hW]; exact ra.below (by simp) (allocBelow _ _)
  have rb : Rf W (w.heap.size + 1) [.string ⟨#[]⟩, .int .i64 0, .string ⟨#[]⟩] := by
    have q : Rf ((w.alloc (.cells #[.string x0, .int .i64 x1, .string x2] 52)).alloc (.cells #[.string ⟨#[]⟩, .int .i64 0, .string ⟨#[]⟩] 52)) (w.alloc (.cells #[.string x0, .int .i64 x1, .string x2] 52)).heap.size [.string ⟨#[]⟩, .int .i64 0, .string ⟨#[]⟩] := Rf.new _ _ _
    rw [hW, World.size_alloc] at q
    exact q
  have fin : ∀ V, Below W.heap.size W V → Hid (V.setCell ⟨w.heap.size, 0, none⟩ (.string x0) = V ∧ V.setCell ⟨w.heap.size, 2, none⟩ (.string x2) = V ∧ Rf V w.heap.size [.string x0, .int .i64 x1, .string x2] ∧ Rf V (w.heap.size + 1) [.string ⟨#[]⟩, .int .i64 0, .string ⟨#[]⟩] ∧ Below w.heap.size w V) := fun V b => by
    have r1 := ra.below (by omega) b
    have r2 := rb.below (by omega) b
    exact ⟨setCell_id (r1.at_ 0 _ rfl), setCell_id (r1.at_ 2 _ rfl), r1, r2, B.trans (b.mono B.size)⟩
  have FIN : Hid (∀ V, Below W.heap.size W V → Hid (V.setCell ⟨w.heap.size, 0, none⟩ (.string x0) = V ∧ V.setCell ⟨w.heap.size, 2, none⟩ (.string x2) = V ∧ Rf V w.heap.size [.string x0, .int .i64 x1, .string x2] ∧ Rf V (w.heap.size + 1) [.string ⟨#[]⟩, .int .i64 0, .string ⟨#[]⟩] ∧ Below w.heap.size w V)) := fin
  clear fin
  have c0 := ra.at_ 0 _ rfl
  have c2 := ra.at_ 2 _ rfl
  clear ra rb B z1
  go_enter Tryd.func32, Tryd.ntmps32
  go_wp2_with fail
  go_cut [] from 3 to 11 (fun wx => Below W.heap.size W wx)
  case first =>
    have BD : Below W.heap.size W W.drew := (Below.refl _ _).drew
    go_region_held (fun w' => w'.cell? ⟨w.heap.size, 0, none⟩ = some (.string x0) ∧ w'.cell? ⟨w.heap.size, 2, none⟩ = some (.string x2)) (first | with_reducible exact ⟨c0, c2⟩ | with_reducible exact ⟨d0, d2⟩ | with_reducible exact ⟨e0, e2⟩ | exact ⟨c0, c2⟩)
      ((first
        | (go_at_call 31; have gd := B1; clear gd; refine (hC2 _).mono ?_; rintro e w2 ⟨rfl, b2⟩; have B2 := B1.trans (b2.mono B1.size); obtain ⟨s20, s22, t2, _, _⟩ := (FIN.out w2 B2).out; have e0 := t2.at_ 0 _ rfl; have e2 := t2.at_ 2 _ rfl; have f20 := t2.fz 0; have f22 := t2.fz 2; clear t2)
        | (go_at_call 31; refine (hC0 _).mono ?_; rintro e w1 ⟨rfl, b1⟩; have B1 := BD.trans b1; obtain ⟨s10, s12, t1, _, _⟩ := (FIN.out w1 B1).out; have d0 := t1.at_ 0 _ rfl; have d2 := t1.at_ 2 _ rfl; have f10 := t1.fz 0; have f12 := t1.fz 2; clear t1)))
    all_goals (go_wp2_with fail; go_meet; exact B2)
  case rest =>
  obtain ⟨_, _, t1, t2, B2⟩ := (FIN.out _ hcut).out
  have c0 := t1.at_ 0 _ rfl
  have c1 := t1.at_ 1 _ rfl
  have c2 := t1.at_ 2 _ rfl
  have g0 := t2.at_ 0 _ rfl
  have g1 := t2.at_ 1 _ rfl
  have g2 := t2.at_ 2 _ rfl
  have k0 := t2.fz 0
  have k1 := t2.fz 1
  have k2 := t2.fz 2
  have tS := ((t2.set (o := 0) (by simp) (.string x0)).set (o := 1) (by simp) (.int .i64 x1)).set (o := 2) (by simp) (.string x2)
  have BV := ((B2.setCell (p := ⟨w.heap.size + 1, 0, none⟩) (Nat.le_succ _) (.string x0)).setCell (p := ⟨w.heap.size + 1, 1, none⟩) (Nat.le_succ _) (.int .i64 x1)).setCell (p := ⟨w.heap.size + 1, 2, none⟩) (Nat.le_succ _) (.string x2)
  obtain ⟨V, hV⟩ : ∃ V, ((wc.setCell ⟨w.heap.size + 1, 0, none⟩ (.string x0)).setCell ⟨w.heap.size + 1, 1, none⟩ (.int .i64 x1)).setCell ⟨w.heap.size + 1, 2, none⟩ (.string x2) = V := ⟨_, rfl⟩
  rw [hV] at tS BV
  have v0 := tS.at_ 0 _ rfl
  have v1 := tS.at_ 1 _ rfl
  have v2 := tS.at_ 2 _ rfl
  have HV : Hid (_ = V) := hV
  clear FIN t1 t2 hcut hC0 hC2 tS hV B2
  go_wp2
  rw [HV.out]
  refine bodyPost_ret (v := .agg #[.string x0, .int .i64 x1, .string x2]) (by simp [results, Tryd.results32, go_sem, v0, v1, v2]) rfl ⟨rfl, BV⟩
end Go.Proofs.YtaggjnaogmhfpaaDoor.Fl
