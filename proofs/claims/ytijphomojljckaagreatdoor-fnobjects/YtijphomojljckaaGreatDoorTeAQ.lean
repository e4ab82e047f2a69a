/- Rows of entries of a tree, one behind the other. No statement is proved here. -/
import Derived.Test.YtijphomojljckaaGreatDoorRows
import Derived.Test.YtijphomojljckaaGreatDoorTeLQ
import Derived.Test.YtijphomojljckaaGreatDoorLemQ
import Derived.Test.YtijphomojljckaaGreatDoorDrawQ
import Derived.WalkKit
import Derived.ProofKit
import Derived.Below
import Derived.WalkSpells
import Derived.Maps.AppendAt
import Derived.Deep.QuietTactic
import Derived.BigQuiet
import Derived.Deep.RegionWith
namespace Go.Proofs.YtijphomojljckaaGreatDoor.Te
open Go.ChangeShapes Go.WideShapes Go.ChangeAt Go.RowKit

theorem ocell_app (l m : List Ob) (j : Nat) : ocell (l ++ m) (l.length * 3 + j) = ocell m j := by
  unfold ocell
  have e1 : (l.length * 3 + j) % 3 = j % 3 := by omega
  have e2 : (l.length * 3 + j) / 3 = l.length + j / 3 := by omega
  rw [e1, e2]
  have e3 : (l ++ m).getD (l.length + j / 3) onil = m.getD (j / 3) onil := by rw [List.getD, List.getD, List.getElem?_append_right (by omega), show l.length + j / 3 - l.length = j / 3 by omega]
  rw [e3]
theorem ocell_left (l m : List Ob) (j : Nat) (h : j < l.length * 3) : ocell (l ++ m) j = ocell l j := by
  unfold ocell
  have h3 : j / 3 < l.length := by omega
  have e3 : (l ++ m).getD (j / 3) onil = l.getD (j / 3) onil := by simp [List.getD, List.getElem?_append_left h3]
  rw [e3]
theorem ocells_app (l m : List Ob) : ocells (l ++ m) = ocells l ++ ocells m := by
  unfold ocells
  rw [List.length_append, Nat.add_mul, rowG_append]
  congr 1
  · exact rowG_congr fun j hj => ocell_left l m j hj
  · exact rowG_congr fun j _ => ocell_app l m j
theorem ocells_one (o : Ob) : ocells [o] = [.string o.1, .int .i64 o.2.1, .string o.2.2] := by
  unfold ocells rowG
  show (List.range 3).map (ocell [o]) = _
  rw [show List.range 3 = [0, 1, 2] from rfl]
  simp [ocell]
end Go.Proofs.YtijphomojljckaaGreatDoor.Te
/- One of some numbers, as the specification draws it. No statement is proved here. -/
namespace Go.Proofs.YtijphomojljckaaGreatDoor
open Go.ChangeShapes Go.WideShapes Go.ChangeAt Go.RowKit
set_option maxHeartbeats 800000 in
theorem l1Pick (N b : Nat) (a : Option Addr) (n cap : Nat) (k : Int) (g m c : Nat) (P : Int → Prop) (w : World) (h : Src N w b a n cap k) (hk : k ≤ 4294967296) (hm : 0 < m) (hm2 : m ≤ 1000) (hg : g ≠ b) (_ : g < w.heap.size)
    (hl : ∀ j, j < m → ∃ v, w.cell? ⟨g, j, none⟩ = some (.int .i64 v) ∧ P v) :
    Calls Tryz.prog 38 #[.pointer (some ⟨b, 0, none⟩), .slice (some ⟨g, 0, none⟩) m c] w fun e w' => ∃ v, e = .returned (.int .i64 v) ∧ P v ∧ Src N w' b a n cap (k + 1) ∧ w.grownBy w' (some b) := by
  have hlt := h.lt
  go_enter Tryz.func38, Tryz.ntmps38
  go_wp2_with fail
  refine (l1Next N b a n cap k m _ h hk).mono ?_; rintro e w2 ⟨r, rfl, hd, hs, gg⟩
  have hd0 := hd.1
  have hd1 : r < m := hd.2.1 (by omega)
  obtain ⟨j, rfl⟩ := Int.eq_ofNat_of_zero_le hd0
  have hj : j < m := by omega
  obtain ⟨v, hv, hP⟩ := hl j hj
  have hv2 : w2.cell? ⟨g, j, none⟩ = some (.int .i64 v) := gg.cell hv (by simp; exact hg)
  clear hd hd0 hl hv
  go_wp2_with fail
  go_ret
  exact ⟨v, rfl, hP, hs, gg⟩
end Go.Proofs.YtijphomojljckaaGreatDoor
