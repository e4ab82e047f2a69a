/- The contract of the specification's l1Lines (no line is empty) over this seat's program. No statement is proved here. -/
import Derived.Test.YtkgcpndnlefkoaaGreatDoorRows
import Derived.Test.YtkgcpndnlefkoaaGreatDoorLemQ
import Derived.Test.YtkgcpndnlefkoaaGreatDoorLwEQ
import Derived.Test.YtkgcpndnlefkoaaGreatDoorDrawQ
import Derived.Test.YtkgcpndnlefkoaaGreatDoorDTabQ
import Derived.WalkKit
import Derived.ProofKit
import Derived.Below
import Derived.WalkSpells
import Derived.Laws.Concat
import Derived.Maps.AppendAt
namespace Go.Proofs.YtkgcpndnlefkoaaGreatDoor
open Go.ChangeShapes Go.WideShapes Go.ChangeAt Go.RowKit

theorem Small.totN {z : Nat} {ss : List ByteArray} (h : Small z ss) : tot ss ≤ z * ss.length := by
  induction ss with
  | nil => simp [Go.Proofs.YtkgcpndnlefkoaaGreatDoor.tot]
  | cons s ss ih =>
    have h1 := h s (by simp)
    have h2 := ih (fun x hx => h x (List.mem_cons_of_mem _ hx))
    unfold Go.Proofs.YtkgcpndnlefkoaaGreatDoor.tot at *
    simp only [List.map_cons, List.sum_cons, List.length_cons]
    have e : (z : Int) * ((ss.length + 1 : Nat) : Int) = (z : Int) * (ss.length : Int) + z := by rw [Int.natCast_add, Int.mul_add]; simp
    rw [e]
    omega
theorem Small.sizesN {z : Nat} {ss : List ByteArray} (h : Small z ss) (hz : z ≤ 9223372036854775807) : ∀ k, k < ss.length → (ss.getD k ByteArray.empty).size ≤ 9223372036854775807 := by
  intro k hk
  rw [getD_at ss k hk]
  exact Nat.le_trans (h _ (List.getElem_mem hk)) hz
theorem SS_ownN {w : World} {base g cap : Nat} {ss : List ByteArray} (h : w.ownsRow base 9 1 (.slice (some ⟨g, 0, none⟩) ss.length cap) ss.length (ss.map Value.string)) (hz : ∀ k, k < ss.length → (ss.getD k ByteArray.empty).size ≤ 9223372036854775807) : SS w (some ⟨g, 0, none⟩) ss := ownSS h hz
theorem Small.replicateN (z n : Nat) : Small z (List.replicate n ByteArray.empty) := fun x hx => by rw [(List.mem_replicate.1 hx).2]; exact Nat.zero_le _

theorem own_posN {W : World} {base : Nat} {e : TypeId} {v : Value} {k : Nat} {xs : List Value} (h : W.ownsRow base e 1 v k xs) (hk : 0 < k) : ∃ g cap, v = .slice (some ⟨g, 0, none⟩) k cap := by
  rcases h.2 with ⟨_, h0⟩ | ⟨g, cap, _, h', _⟩
  · omega
  · exact ⟨g, cap, h'⟩

/-- Every string is of at most z bytes, and none is empty. -/
def SmL (z : Nat) (ss : List ByteArray) : Prop := ∀ x ∈ ss, x.size ≤ z ∧ 0 < x.size
theorem SmL.nil (z : Nat) : SmL z [] := fun _ h => by cases h
theorem SmL.snoc {z : Nat} {ss : List ByteArray} {x : ByteArray} (h : SmL z ss) (hx : x.size ≤ z ∧ 0 < x.size) : SmL z (ss ++ [x]) := fun y hy => by
  rcases List.mem_append.1 hy with h' | h'
  · exact h y h'
  · rw [List.mem_singleton.1 h']; exact hx
theorem SmL.set {z : Nat} {ss : List ByteArray} {x : ByteArray} (h : SmL z ss) (hx : x.size ≤ z ∧ 0 < x.size) (i : Nat) : SmL z (ss.set i x) := fun y hy => by
  rcases List.mem_or_eq_of_mem_set hy with h' | h'
  · exact h y h'
  · rw [h']; exact hx
theorem SmL.small {z : Nat} {ss : List ByteArray} (h : SmL z ss) : Small z ss := fun x hx => (h x hx).1
theorem SmL.app {z : Nat} {xs ys : List ByteArray} (h : SmL z xs) (k : SmL z ys) : SmL z (xs ++ ys) := fun x hx => by
  rcases List.mem_append.1 hx with h' | h'
  · exact h x h'
  · exact k x h'
theorem SmL.take {z : Nat} {xs : List ByteArray} (h : SmL z xs) (i : Nat) : SmL z (xs.take i) := fun x hx => h x (List.mem_of_mem_take hx)
theorem SmL.drop {z : Nat} {xs : List ByteArray} (h : SmL z xs) (i : Nat) : SmL z (xs.drop i) := fun x hx => h x (List.mem_of_mem_drop hx)

def LinesPostF (N b : Nat) (a : Option Addr) (n cap : Nat) (k : Int) (n0 : Nat) (w : World) (e : Ending) (w' : World) : Prop :=
  ∃ (ss : List ByteArray) (g c : Nat) (k' : Int), e = .returned (.slice (some ⟨g, 0, none⟩) ss.length c) ∧ ss.length ≤ n0 ∧ SmL 8 ss ∧
      w'.ownsRow w.heap.size 9 1 (.slice (some ⟨g, 0, none⟩) ss.length c) ss.length (ss.map Value.string) ∧ Src N w' b a n cap k' ∧ k' ≤ k + n0 + 2 ∧ w.grownBy w' (some b)

set_option maxHeartbeats 3000000 in
theorem l1LinesF (N b : Nat) (a : Option Addr) (n cap : Nat) (k : Int) (n0 : Nat) (w : World) (h : Src N w b a n cap k) (hk : k ≤ 4294900000) (hn0 : n0 ≤ 1000) :
    Calls Tryz.prog 41 #[.pointer (some ⟨b, 0, none⟩), .int .i64 n0] w fun e w' => LinesPostF N b a n cap k n0 w e w' := by
  obtain ⟨i0, hi, hz0, hz1, hz2⟩ := info_parts infoString
  have hlt := h.lt
  have hge := h.ge
  have hB : ∀ o, Below w.heap.size w (w.alloc o) := fun o => (Below.refl _ _).alloc (Nat.le_refl _) _
  go_enter Tryz.func41, Tryz.ntmps41
  go_wp2
  go_loopw [1, 5] (fun i v wr => ∃ (m : Nat) (ss : List ByteArray) (g c : Nat) (k' : Int), i = .int .i64 m ∧ v = .slice (some ⟨g, 0, none⟩) ss.length c ∧ ss.length + m ≤ n0 ∧ SmL 8 ss ∧
      wr.ownsRow w.heap.size 9 1 (.slice (some ⟨g, 0, none⟩) ss.length c) ss.length (ss.map Value.string) ∧ Src N wr b a n cap k' ∧ k' + m ≤ k + n0 ∧ w.grownBy wr (some b) ∧ w.heap.size + 1 ≤ wr.heap.size) (fun i _ _ => (intOf i).toNat)
  case atStart =>
    refine ⟨n0, [], w.heap.size, 0, k, rfl, rfl, by simp, SmL.nil _, ?_, h.below (hB _), by omega, World.grownBy_alloc _ _ _, by simp⟩
    exact World.ownsRow_lit w #[] 0 (Nat.le_refl _) (Nat.zero_le _) rfl
  case round =>
    obtain ⟨m, ss, g, c, k', rfl, rfl, hm, hsm, hown, hsrc, hkm, hgr, hsz⟩ := hrel
    have hgg := hown.lt g rfl
    by_cases hpos : 0 < m
    · have hp : (0 : Int) < (m : Int) := by omega
      go_wp2_with fail
      refine (l1Word N b a n cap k' _ hsrc (by omega)).mono ?_; rintro e w1 ⟨x, rfl, hx, hsrc1, hg1⟩
      have hown1 := hown.kept hg1 (.inr (by rw [ownBlock_slice]; simp; omega))
      have hS1 := hg1.size
      have hgr1 := grown_trans hgr hg1
      have hxs : (x ++ (⟨#[10]⟩ : ByteArray)).size = x.size + 1 := by rw [ByteArray.size_append]; rfl
      obtain ⟨y, hy⟩ : ∃ y, x ++ (⟨#[10]⟩ : ByteArray) = y := ⟨_, rfl⟩
      rw [hy] at hxs
      have hy8 : y.size ≤ 8 ∧ 0 < y.size := by omega
      have hx9 : x.size + (⟨#[10]⟩ : ByteArray).size ≤ 9223372036854775807 := by have : (⟨#[10]⟩ : ByteArray).size = 1 := rfl
                                                                                 omega
      clear hxs hown hsrc hgr hg1
      go_wp2_with (at_builtin; refine wpList_append_own _ rfl (.tmp 11) (.tmp 15) 39 rfl w.heap.size 9 i0 (.string ByteArray.empty) 1 16 Tryz.underlying39 hi hz0 hz1 hz2 rfl (by decide) (.slice (some ⟨g, 0, none⟩) ss.length c) _ _ rfl (hown1.alloc _) ⟨w1.heap.size, 0, none⟩ 1 1 [.string y] rfl rfl (cell_one_new _ _ _) (by simp [Value.oneCell']) (by unfold maxLen; omega) (by omega) (by simp; omega) ?_; intro v' w2 hown2 hg2 _)
      obtain ⟨g', c', rfl⟩ := own_succ hown2
      have hga := hg2.size
      simp only [World.size_alloc] at hga
      have hsrc2 : Src N w2 b a n cap (k' + 1) := (hsrc1.below ((Below.refl _ _).alloc (Nat.le_refl _) _)).kept hg2 (by rw [ownBlock_slice]; simp; omega) (fun j hj => by rw [ownBlock_slice] at hj; cases hj; omega)
      have hgr2 : w.grownBy w2 (some b) := grown_new (grown_trans hgr1 (World.grownBy_alloc _ _ _)) hg2 (fun j hj => by rw [ownBlock_slice] at hj; cases hj; omega)
      go_roundw
      case rel =>
        refine ⟨m - 1, ss ++ [y], g', c', k' + 1, ?_, by simp, by simp; omega, hsm.snoc hy8, by simpa using hown2, hsrc2, by omega, hgr2, by omega⟩
        go_num
      case measure => simp [intOf]; omega
    · have hp : ¬ (0 : Int) < (m : Int) := by omega
      by_cases h0 : 0 < ss.length
      · have h0' : (0 : Int) < (ss.length : Int) := by omega
        go_wp2_with fail
        refine (l1Chance N b a n cap k' 5 _ hsrc (by omega)).mono ?_; rintro e w1 ⟨r, rfl, hsrc1, hg1⟩
        have hown1 := hown.kept hg1 (.inr (by rw [ownBlock_slice]; simp; omega))
        have hgr1 := grown_trans hgr hg1
        have hS1 := hg1.size
        clear hown hsrc hgr hg1
        cases r with
        | false =>
          go_wp2_with fail
          go_ret
          exact ⟨ss, g, c, k' + 1, rfl, by omega, hsm, hown1, hsrc1, by omega, hgr1⟩
        | true =>
          have hB1 : ∀ o, Below w1.heap.size w1 (w1.alloc o) := fun o => (Below.refl _ _).alloc (Nat.le_refl _) _
          go_wp2_with fail
          refine (l1Next N b a n cap (k' + 1) 3 _ (hsrc1.below (hB1 _)) (by omega)).mono ?_; rintro e w2 ⟨r, rfl, hd, hsrc2, hg2⟩
          have hd0 := hd.1
          have hd1 : r < 3 := hd.2.1 (by omega)
          obtain ⟨j, rfl⟩ := Int.eq_ofNat_of_zero_le hd0
          have hj : j < 3 := by omega
          obtain ⟨x, hx, hx8⟩ : ∃ x : ByteArray, w2.cell? ⟨w1.heap.size, j, none⟩ = some (.string x) ∧ (x.size ≤ 8 ∧ 0 < x.size) := by
            have hbk := (hg2.block w1.heap.size (by simp) (by simp; omega)).trans (heap_alloc_new w1 _)
            have hc : ∀ i, w2.cell? ⟨w1.heap.size, i, none⟩ = _ := fun i => cell_of_row w2 w1.heap.size i _ _ _ hbk
            rw [hc]
            have : j = 0 ∨ j = 1 ∨ j = 2 := by omega
            rcases this with rfl | rfl | rfl <;> exact ⟨_, rfl, by decide⟩
          have hown2 := (hown1.alloc _).kept hg2 (.inr (by rw [ownBlock_slice]; simp; omega))
          have hgr2 := grown_trans hgr1 (grown_trans (World.grownBy_alloc w1 _ (some b)) hg2)
          have hfz := hown2.frozenAt (ss.length - 1)
          have hold := hown2.cellAt (ss.length - 1) (by omega)
          rw [List.getElem?_eq_getElem (by simp; omega)] at hold
          have hidx : ((ss.length : Int) - 1).toNat = ss.length - 1 := by omega
          have hib : (ss.length : Int) - 1 < (ss.length : Int) := by omega
          obtain ⟨hs1, hs2⟩ := hown2.stored (ss.length - 1) (.string x)
          rw [map_set] at hs1
          have hgr3 : w.grownBy (w2.setCell ⟨g, ss.length - 1, none⟩ (.string x)) (some b) := grown_new hgr2 hs2 (fun j hj => by cases hj; omega)
          have hsrc3 : Src N (w2.setCell ⟨g, ss.length - 1, none⟩ (.string x)) b a n cap (k' + 1 + 1) := hsrc2.kept hs2 (by simp; omega) (fun j hj => by cases hj; omega)
          have HF : Hid (LinesPostF N b a n cap k n0 w (.returned (.slice (some ⟨g, 0, none⟩) ss.length c)) (w2.setCell ⟨g, ss.length - 1, none⟩ (.string x))) :=
            ⟨ss.set (ss.length - 1) x, g, c, k' + 1 + 1, by simp, by simp; omega, hsm.set hx8 _, by simpa using hs1, hsrc3, by omega, hgr3⟩
          clear hgr3 hsrc3 hs1 hs2 hgr2 hown2 hg2 hown1 hsrc1 hsrc2 hgr1 hd hd0 hd1
          go_wp2_with fail
          go_ret
          exact HF.out
      · have h0' : ¬ (0 : Int) < (ss.length : Int) := by omega
        go_wp2_with fail
        go_ret
        exact ⟨ss, g, c, k', rfl, by omega, hsm, hown, hsrc, by omega, hgr⟩
end Go.Proofs.YtkgcpndnlefkoaaGreatDoor
/- The contract of the specification's l1Bent (lines of nine bytes) over this seat's program. No statement is proved here. -/
namespace Go.Proofs.YtkgcpndnlefkoaaGreatDoor
open Go.ChangeShapes Go.WideShapes Go.ChangeAt Go.RowKit

def BentPost9 (N b : Nat) (a : Option Addr) (n cap : Nat) (k : Int) (w : World) (e : Ending) (w' : World) : Prop := ∃ (x : Option Addr) (c : Nat) (ss : List ByteArray), e = .returned (.slice x ss.length c) ∧ SS w' x ss ∧ ss.length ≤ 1000 ∧ Small 9 ss ∧ w.grownBy w' (some b) ∧ ∃ k', Src N w' b a n cap k' ∧ k' ≤ k + 200

end Go.Proofs.YtkgcpndnlefkoaaGreatDoor
