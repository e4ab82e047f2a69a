/- The contracts of the program's isTaken and FilesFault. No statement is proved here. -/
import Derived.Test.YtjcnnmnnbjaheaaGreatDoorRows
import Derived.Test.YtjcnnmnnbjaheaaGreatDoorLemQ
import Derived.Test.YtjcnnmnnbjaheaaGreatDoorDTabQ
import Derived.Test.YtjcnnmnnbjaheaaGreatDoorHkTQ
import Derived.Test.YtjcnnmnnbjaheaaGreatDoorIdLQ
import Derived.Test.YtjcnnmnnbjaheaaGreatDoorFlLQ
import Derived.Test.YtjcnnmnnbjaheaaGreatDoorSsCQ
import Derived.Test.YtjcnnmnnbjaheaaGreatDoorIxMQ
import Derived.WalkKit
import Derived.ProofKit
import Derived.Below
import Derived.WalkSpells
import Derived.Deep.QuietTactic
import Derived.BigQuiet
import Derived.Deep.RegionWith
import Derived.Laws.Cover1
import Derived.Test.YtjcnnmnnbjaheaaGreatDoorFmCQ
import Derived.Test.YtjcnnmnnbjaheaaGreatDoorPfSQ
import Derived.Deep.RegionHeld
import Derived.Deep.CutRange
import Derived.Test.YtjcnnmnnbjaheaaGreatDoorShelfQ
import Derived.Test.YtjcnnmnnbjaheaaGreatDoorIxOQ
import Derived.Test.YtjcnnmnnbjaheaaGreatDoorSgCQ
import Derived.Maps.AppendAt
namespace Go.Proofs.YtjcnnmnnbjaheaaGreatDoor.Fl
open Go.ChangeShapes Go.WideShapes Go.ChangeAt Go.RowKit

end Go.Proofs.YtjcnnmnnbjaheaaGreatDoor.Fl
/- The contract of the specification's FilesFault. No statement is proved here. -/
namespace Go.Proofs.YtjcnnmnnbjaheaaGreatDoor.Fl
open Go.ChangeShapes Go.WideShapes Go.ChangeAt Go.RowKit

theorem quietM {P : Program} {f : FuncId} {args : Array Value} {w : World} {n : Nat} {v : Value} (h : Calls P f args (w.drewN n) fun e w' => e = .returned v ∧ ∃ m, w' = (w.drewN n).drewN m) : Calls P f args (w.drewN n) fun e w'' => e = .returned v ∧ ∃ m, w'' = w.drewN m := h.mono fun _ _ ⟨he, m, hm⟩ => ⟨he, n + m, by rw [hm, World.drewN_drewN]⟩
theorem quietS {P : Program} {f : FuncId} {args : Array Value} {w : World} {n : Nat} {v : Value} (h : Calls P f args (w.drewN n) fun e w' => e = .returned v ∧ w' = w.drewN n) : Calls P f args (w.drewN n) fun e w'' => e = .returned v ∧ ∃ m, w'' = w.drewN m := h.mono fun _ _ ⟨he, hm⟩ => ⟨he, n, hm⟩
end Go.Proofs.YtjcnnmnnbjaheaaGreatDoor.Fl
/- What is made of files and entries, and the contract of indexOf at an index without a fault. No statement is proved here. -/
namespace Go.Proofs.YtjcnnmnnbjaheaaGreatDoor.En
open Go.ChangeShapes Go.WideShapes Go.ChangeAt Go.RowKit

set_option maxRecDepth 20000 in
set_option maxHeartbeats 4000000 in
theorem entryAtC (o : Fl.Ob) (s : Int) (w : World) (h0 : o.1.size ≤ 1048576) (h2 : o.2.2.size ≤ 1048576) :
    Calls Tryz.prog 72 #[.agg #[.string o.1, .int .i64 o.2.1, .string o.2.2], .int .i64 s] w fun e w' => e = .returned (.agg #[.string o.1, .int .i64 s, .int .i64 o.2.1, .string o.2.2]) ∧ Below w.heap.size w w' := by
  obtain ⟨x0, x1, x2⟩ := o
  simp only [] at h0 h2 ⊢
  have hC0 := fun W => cloneS x0 W (by omega)
  have hC2 := fun W => cloneS x2 W (by omega)
  obtain ⟨W, hW⟩ : ∃ W, (w.alloc (.cells #[.string x0, .int .i64 x1, .string x2] 88)).alloc (.cells #[.string ⟨#[]⟩, .int .i64 0, .int .i64 0, .string ⟨#[]⟩] 51) = W := ⟨_, rfl⟩
  have B : Below w.heap.size w W := by rw [← hW]; exact ((Below.refl _ _).alloc (Nat.le_refl _) _).alloc (by simp) _
  have z1 : w.heap.size + 1 < W.heap.size := by rw [← hW]; simp
  have ra : Rf (w.alloc (.cells #[.string x0, .int .i64 x1, .string x2] 88)) w.heap.size [.string x0, .int .i64 x1, .string x2] := Rf.new _ _ _
  have ra : Rf W w.heap.size [.string x0, .int .i64 x1, .string x2] := by rw [← hW]; exact ra.below (by simp) (allocBelow _ _)
  have rb : Rf W (w.heap.size + 1) [.string ⟨#[]⟩, .int .i64 0, .int .i64 0, .string ⟨#[]⟩] := by
    have q : Rf ((w.alloc (.cells #[.string x0, .int .i64 x1, .string x2] 88)).alloc (.cells #[.string ⟨#[]⟩, .int .i64 0, .int .i64 0, .string ⟨#[]⟩] 51)) (w.alloc (.cells #[.string x0, .int .i64 x1, .string x2] 88)).heap.size [.string ⟨#[]⟩, .int .i64 0, .int .i64 0, .string ⟨#[]⟩] := Rf.new _ _ _
    rw [hW, World.size_alloc] at q
    exact q
  have FIN : Hid (∀ V, Below W.heap.size W V → Hid (Rf V w.heap.size [.string x0, .int .i64 x1, .string x2] ∧ Rf V (w.heap.size + 1) [.string ⟨#[]⟩, .int .i64 0, .int .i64 0, .string ⟨#[]⟩] ∧ Below w.heap.size w V)) := fun V b => ⟨ra.below (by omega) b, rb.below (by omega) b, B.trans (b.mono B.size)⟩
  have c0 := ra.at_ 0 _ rfl
  have c1 := ra.at_ 1 _ rfl
  have c2 := ra.at_ 2 _ rfl
  clear ra rb B z1
  go_enter Tryz.func72, Tryz.ntmps72
  go_wp2_with fail
  have BD : Below W.heap.size W W.drew := (Below.refl _ _).drew
  go_region_held (fun w' => w'.cell? ⟨w.heap.size, 0, none⟩ = some (.string x0) ∧ w'.cell? ⟨w.heap.size, 1, none⟩ = some (.int .i64 x1) ∧ w'.cell? ⟨w.heap.size, 2, none⟩ = some (.string x2)) (first | with_reducible exact ⟨c0, c1, c2⟩ | with_reducible exact ⟨d0, d1, d2⟩ | with_reducible exact ⟨e0, e1, e2⟩ | with_reducible exact ⟨s0, s1, s2⟩ | exact ⟨c0, c1, c2⟩)
    ((first
      | (go_at_call 94; have gd := B1; clear gd; refine (hC2 _).mono ?_; rintro e w2 ⟨rfl, b2⟩; have B2 := B1.trans (b2.mono B1.size); obtain ⟨t2, u2, B3⟩ := (FIN.out w2 B2).out; have e0 := t2.at_ 0 _ rfl; have e1 := t2.at_ 1 _ rfl; have e2 := t2.at_ 2 _ rfl; have g0 := u2.at_ 0 _ rfl; have g1 := u2.at_ 1 _ rfl; have g2 := u2.at_ 2 _ rfl; have g3 := u2.at_ 3 _ rfl; have k0 := u2.fz 0; have k1 := u2.fz 1; have k2 := u2.fz 2; have k3 := u2.fz 3; have tS := (((t2.other (b' := w.heap.size + 1) (o := 0) (Nat.ne_of_lt (Nat.lt_succ_self _)) (.string x0)).other (b' := w.heap.size + 1) (o := 1) (Nat.ne_of_lt (Nat.lt_succ_self _)) (.int .i64 s)).other (b' := w.heap.size + 1) (o := 2) (Nat.ne_of_lt (Nat.lt_succ_self _)) (.int .i64 x1)).other (b' := w.heap.size + 1) (o := 3) (Nat.ne_of_lt (Nat.lt_succ_self _)) (.string x2); have s0 := tS.at_ 0 _ rfl; have s1 := tS.at_ 1 _ rfl; have s2 := tS.at_ 2 _ rfl)
      | (go_at_call 94; refine (hC0 _).mono ?_; rintro e w1 ⟨rfl, b1⟩; have B1 := BD.trans b1; obtain ⟨t1, _, _⟩ := (FIN.out w1 B1).out; have d0 := t1.at_ 0 _ rfl; have d1 := t1.at_ 1 _ rfl; have d2 := t1.at_ 2 _ rfl; clear t1)))
  all_goals
    have uS := (((u2.set (o := 0) (by simp) (.string x0)).set (o := 1) (by simp) (.int .i64 s)).set (o := 2) (by simp) (.int .i64 x1)).set (o := 3) (by simp) (.string x2)
    have BV := (((B3.setCell (p := ⟨w.heap.size + 1, 0, none⟩) (Nat.le_succ _) (.string x0)).setCell (p := ⟨w.heap.size + 1, 1, none⟩) (Nat.le_succ _) (.int .i64 s)).setCell (p := ⟨w.heap.size + 1, 2, none⟩) (Nat.le_succ _) (.int .i64 x1)).setCell (p := ⟨w.heap.size + 1, 3, none⟩) (Nat.le_succ _) (.string x2)
    obtain ⟨V, hV⟩ : ∃ V, (((w2.setCell ⟨w.heap.size + 1, 0, none⟩ (.string x0)).setCell ⟨w.heap.size + 1, 1, none⟩ (.int .i64 s)).setCell ⟨w.heap.size + 1, 2, none⟩ (.int .i64 x1)).setCell ⟨w.heap.size + 1, 3, none⟩ (.string x2) = V := ⟨_, rfl⟩
    rw [hV] at uS BV ⊢
    have v0 := uS.at_ 0 _ rfl
    have v1 := uS.at_ 1 _ rfl
    have v2 := uS.at_ 2 _ rfl
    have v3 := uS.at_ 3 _ rfl
    clear FIN t2 u2 tS hV B3 hC0 hC2 uS s0 s1 s2
    go_wp2
    refine bodyPost_ret (v := .agg #[.string x0, .int .i64 s, .int .i64 x1, .string x2]) (by simp [results, Tryz.results72, go_sem, v0, v1, v2, v3]) rfl ⟨rfl, BV⟩
/-- The entry of a file at a stage. -/
def ent (o : Fl.Ob) (s : Int) : Ob := (o.1, s, o.2.1, o.2.2)
end Go.Proofs.YtjcnnmnnbjaheaaGreatDoor.En
