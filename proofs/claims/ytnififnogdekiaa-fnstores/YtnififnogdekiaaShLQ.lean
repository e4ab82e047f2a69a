/- The contract of the program's list: the objects of a shelf, rising. No statement is proved here. -/
import Derived.Test.YtnififnogdekiaaRows
import Derived.Test.YtnififnogdekiaaLemQ
import Derived.Test.YtnififnogdekiaaDTabQ
import Derived.Test.YtnififnogdekiaaHkTQ
import Derived.Test.YtnififnogdekiaaObLQ
import Derived.Test.YtnififnogdekiaaShPQ
import Derived.Test.YtnififnogdekiaaShQQ
import Derived.Test.YtnififnogdekiaaPuLQ
import Derived.Test.YtnififnogdekiaaOcAQ
import Derived.Test.YtnififnogdekiaaShSQ
import Derived.Test.YtnififnogdekiaaPuSQ
import Derived.WalkKit
import Derived.ProofKit
import Derived.Below
import Derived.WalkSpells
import Derived.Maps.AppendAt
import Derived.Maps.RangeWalk
import Derived.Sort.OwnSorted
namespace Go.Proofs.Ytnififnogdekiaa
open Go.ChangeShapes Go.WideShapes Go.ChangeAt Go.RowKit Go.Maps

/-- A row of objects, in memory of its own. -/
def OR (L : List Ob) (w : World) (e : Ending) (w' : World) : Prop := ∃ v, e = .returned v ∧ w'.ownsRow w.heap.size 31 3 v L.length (ocells L) ∧ Below w.heap.size w w'

set_option maxRecDepth 20000 in
set_option maxHeartbeats 2000000 in
theorem listC (p b : Nat) (l L : List Ob) (x : Value) (w : World) (hR : Rf w p [.map (some b), x]) (hS : Sh w b l) (hd : (l.map fun o => o.1).Nodup) (hl : l.length ≤ 200) (hs : SmallO l) (hL : Asc L) (hp : L.Perm l) :
    Calls Try.prog 25 #[.pointer (some ⟨p, 0, none⟩)] w fun e w' => OR L w e w' := by
  obtain ⟨i0, hi, hz0, hz1, hz2⟩ := info_parts infoObj
  obtain ⟨D, hown, hT⟩ := hS.tells
  have c0 := hR.at_ 0 _ rfl
  have hb := hown.lt
  have hsz : size D = l.length := hT.1
  have HT : Hid (Tells D l) := hT
  have HL : ∀ (m acc : List Ob) (left : Lit → Bool), Got l left acc → (∀ z, left z = false) → m.Perm acc → (m.Pairwise fun o p => ltO p o = false) → Hid (m = L) := fun m acc left hG hz h1 h2 => by
    have q1 := hG.perm (ids_nodup hd) hz
    have q2 := h1.trans q1
    exact asc_eq (q2.trans hp.symm) (asc_sorted q2 hd h2) hL
  have hLl : L.length = l.length := hp.length_eq
  have HLl : Hid (L.length = l.length) := hLl
  have HG0 : Hid (Got l (has D) []) := Got.start hT
  clear hR hS hT hd hL hp hLl
  go_enter Try.func25, Try.ntmps25
  go_wp2_with (first | (at_range; refine wpList_range_own _ rfl _ 76 rfl 81 31 lawKey undMap obR b l.length D rfl hown ?_; intro w0 hrg0 hg0 hs0) | go_in)
  go_frame
  have B0 : Below w.heap.size w w0 := (Below.refl _ _).grown hg0 (Nat.le_refl _) (fun j hj => by cases hj)
  clear hg0 hs0 c0 hown
  rw [hsz] at hrg0
  go_loopw [3] (fun v wr => ∃ (left : Lit → Bool) (cnt : Nat) (acc : List Ob), wr.ranges Try.prog 81 obR b w.heap.size l.length D left cnt ∧ acc.length + cnt ≤ l.length ∧ wr.ownsRow w.heap.size 31 3 v acc.length (ocells acc) ∧ Hid (Got l left acc) ∧ Below w.heap.size w wr) (fun _ wr => wr.rangeLeft b w.heap.size)
  case atStart => exact ⟨_, _, [], hrg0, by simp, ⟨rfl, .inl ⟨rfl, rfl⟩⟩, HG0, B0⟩
  case round =>
    clear hrg0 B0 HG0
    obtain ⟨left, cnt, acc, hrg, hcs, hrow, hC, hnx⟩ := hrel
    have hbw := hnx.size
    go_wp2_with (first
      | (at_next; refine wpList_next_ranges _ rfl _ rfl 81 lawKey obR (fun v : Value => v) obV (fun key kl hk => ⟨key, rfl⟩) (fun v y hv => by
            unfold obR at hv
            split at hv
            · rename_i s k t
              exact ⟨(s, k, t), rfl⟩
            · cases hv) b w.heap.size l.length _ _ _ rfl hrg ?_ ?_)
      | go_in)
    · intro hc0 hl0
      have hLL := fun m h1 h2 => HL m acc left hC.out hl0 h1 h2
      have hlen : acc.length ≤ 1048576 := by omega
      have hso := sortC w.heap.size _ acc wr hrow hlen
      have hlt := hrow.lt
      clear HL HT hrow hrg hl0 hC
      go_wp2_with (go_at_call 41; refine hso.mono ?_; rintro e w' ⟨rfl, m, p1, p2, o1, g1⟩)
      have e := (hLL m p1 p2).out
      subst e
      have hal : acc.length = m.length := p1.length_eq.symm
      rw [hal] at o1
      have hB := hnx.grown g1 hnx.size (fun j hj => (hlt j hj).1)
      clear p1 p2 hLL g1 hso
      go_ret
      exact ⟨_, rfl, o1, hB⟩
    · intro key x0 x1 x2 z yd yp w2 cnt2 hkey hlk hv hat hrg2 hlt hg2 hs2 hen
      obtain ⟨hcl, rfl⟩ := HT.out.entry (c := (x0, x1, x2)) hv hat
      have hC2 : Hid (Got l _ (acc ++ [(x0, x1, x2)])) := hC.out.step HT.out hcl hlk
      have hrow2 := hrow.kept hg2 (Or.inr (row_ne_iter hrow hrg).symm)
      have hsm := hs _ hcl
      have hB2 := hnx.grown hg2 hnx.size (fun j hj => by cases hj; exact Nat.le_refl _)
      have hz2' : wr.heap.size ≤ w2.heap.size := hg2.size
      have HM : Hid (wr.rangeLeft b w.heap.size = cnt) := hrg.left_eq
      clear hs2 hC hv hat hkey hlk hcl hg2 HL hnx hrow hrg
      simp only [] at hsm
      have hCl := fun w => cloneObjectC x0 x2 x1 w hsm.1 hsm.2
      unfold obV at hen
      unfold obV
      simp only [] at hen ⊢
      have bA : Below w2.heap.size w2 (w2.alloc (.cells #[.string x0, .int .i64 x1, .string x2] 31)) := allocBelow _ _
      have oA := hrow2.kept (grownOfBelow bA none) (blockCases _ _ (fun _ _ h => by cases h))
      have rA := (hrg2.alloc (.cells #[.string x0, .int .i64 x1, .string x2] 31))
      have BA : Below w.heap.size w (w2.alloc (.cells #[.string x0, .int .i64 x1, .string x2] 31)) := hB2.trans (bA.mono hB2.size)
      have zA : w2.heap.size + 1 = (w2.alloc (.cells #[.string x0, .int .i64 x1, .string x2] 31)).heap.size := by simp
      clear hrow2 hrg2 bA
      go_wp2_with (first
        | (go_at_call 30; refine (hCl _).mono ?_; rintro e w3 ⟨rfl, b3⟩
           have o3 := oA.kept (grownOfBelow b3 none) (blockCases _ _ (fun _ _ h => by cases h))
           have r3 := rA.kept (grownOfBelow b3 none) (by simp) (by simp)
           have B3 : Below w.heap.size w w3 := BA.trans (b3.mono BA.size)
           have bB := allocBelow w3 (.cells #[.string x0, .int .i64 x1, .string x2] 31)
           have oB := o3.kept (grownOfBelow bB none) (blockCases _ _ (fun _ _ h => by cases h))
           have rB := r3.kept (grownOfBelow bB none) (by simp) (by simp)
           have BB : Below w.heap.size w (w3.alloc (.cells #[.string x0, .int .i64 x1, .string x2] 31)) := B3.trans (bB.mono B3.size)
           have nB := newsCells w3 #[.string x0, .int .i64 x1, .string x2] 31
           have sB := BB.size
           have hlB := oB.lt
           have hne1 := row_ne_iter oB rB
           clear o3 r3 B3 bB oA rA BA b3 hCl)
        | (at_builtin; refine wpList_appO rfl (.tmp 15) (.tmp 18) rfl w.heap.size _ acc rfl oB ⟨w3.heap.size, 0, none⟩ 1 [(x0, x1, x2)] rfl (by rw [ocells_one]; exact nB) (by simp; omega) sB ?_; intro v4 w4 o4 g4 n4 k4)
        | go_in)
      have hrg4 := rB.kept g4 (fun e => by have := (hlB _ e.symm).1; omega) hne1
      have B4 : Below w.heap.size w w4 := BB.grown g4 sB (fun j hj => (hlB j hj).1)
      clear nB n4 k4 oB rB BB
      go_roundw
      case rel => exact ⟨_, cnt2, acc ++ [(x0, x1, x2)], hrg4, by simp; omega, o4, hC2, B4⟩
      case measure => rw [hrg4.left_eq, HM.out]; exact hlt
end Go.Proofs.Ytnififnogdekiaa
