/- The contract of the specification's l10Text. No statement is proved here. -/
import Derived.Test.YtjcnnmnnbjaheaaGreatDoorRows
import Derived.Test.YtjcnnmnnbjaheaaGreatDoorLemQ
import Derived.Test.YtjcnnmnnbjaheaaGreatDoorDTabQ
import Derived.Test.YtjcnnmnnbjaheaaGreatDoorHkTQ
import Derived.Test.YtjcnnmnnbjaheaaGreatDoorDigCQ
import Derived.Test.YtjcnnmnnbjaheaaGreatDoorWwCQ
import Derived.Test.YtjcnnmnnbjaheaaGreatDoorTrWQ
import Derived.Test.YtjcnnmnnbjaheaaGreatDoorTrSQ
import Derived.Test.YtjcnnmnnbjaheaaGreatDoorJnCQ
import Derived.Test.YtjcnnmnnbjaheaaGreatDoorIxMQ
import Derived.WalkKit
import Derived.ProofKit
import Derived.Below
import Derived.WalkSpells
import Derived.Laws.Concat
import Derived.Deep.RegionWith
import Derived.Deep.RegionHeld3
import Derived.Deep.QuietTactic
import Derived.BigQuiet
namespace Go.Proofs.YtjcnnmnnbjaheaaGreatDoor.En
open Go.ChangeShapes Go.WideShapes Go.ChangeAt Go.RowKit

theorem it_dec (n : Nat) : itB (n : Int) = decB n := rfl
/-- The lines of entries as a text. -/
def xQ (l : List Ob) : ByteArray := ⟨(xL l).toArray⟩
theorem xQ_size (l : List Ob) : (xQ l).size = (xL l).length := by
  show (xL l).toArray.size = _
  simp
theorem wl4 (x y z u : ByteArray) : wl [x, y, z, u] = x.data.toList ++ 32 :: (y.data.toList ++ 32 :: (z.data.toList ++ 32 :: (u.data.toList ++ [10]))) := by
  unfold wl jnB
  show (jl [x, y, z, u] 3) ++ [10] = _
  simp [jl]
theorem wlTwo (x y : ByteArray) : wl [x, y] = x.data.toList ++ 32 :: (y.data.toList ++ [10]) := by
  unfold wl jnB
  show (jl [x, y] 1) ++ [10] = _
  simp [jl]
theorem xQ_take (l : List Ob) (k n : Nat) (x0 : ByteArray) (x2 : Int) (x3 : ByteArray) (h : k < l.length) (he : l.getD k onil = (x0, (n : Int), x2, x3)) :
    xQ (l.take (k + 1)) = xQ (l.take k) ++ decB n ++ ⟨#[32]⟩ ++ Te.wd x2 ++ ⟨#[32]⟩ ++ x3 ++ ⟨#[32]⟩ ++ x0 ++ ⟨#[10]⟩ := by
  apply WideShapes.bytes_inj
  unfold xQ
  rw [xL_take l k h, he]
  unfold eL
  rw [wl4]
  simp [ByteArray.data_append, it_dec]
theorem xB_all (l : List Ob) (n : Nat) (h : dig (xL l) = (n : Int)) : xB l = xQ l ++ ⟨#[115, 117, 109, 32]⟩ ++ decB n ++ ⟨#[10]⟩ := by
  apply WideShapes.bytes_inj
  unfold xB xA xQ
  rw [h, wlTwo, it_dec]
  simp [ByteArray.data_append, wSum]
theorem l6WordsP (w : World) : Calls Tryz.prog 57 #[] w fun e w' => e = .returned (.slice (some ⟨w.heap.size, 0, none⟩) 4 4) ∧ Below w.heap.size w w' ∧ w'.cell? ⟨w.heap.size, 1, none⟩ = some (.string ⟨#[102, 105, 108, 101]⟩) ∧ w'.cell? ⟨w.heap.size, 2, none⟩ = some (.string ⟨#[114, 117, 110]⟩) := by
  refine (Te.l6Words w).mono ?_
  rintro e w1 ⟨rfl, rfl⟩
  exact ⟨rfl, allocBelow w _, Te.word_cell w _ _ 1 _ rfl, Te.word_cell w _ _ 2 _ rfl⟩

set_option maxRecDepth 20000 in
set_option maxHeartbeats 2000000 in
theorem l10TextC (a : Option Addr) (c : Nat) (l : List Ob) (w : World) (h : OB w.heap.size w a l) (hf : ixf l = 0) :
    Calls Tryz.prog 29 #[.slice a l.length c] w fun e w' => e = .returned (.string (xB l)) ∧ Below w.heap.size w w' := by
  obtain ⟨hl2, hA⟩ := ixf_zero hf
  go_enter Tryz.func29, Tryz.ntmps29
  go_wp2
  go_loopw [3, 4, 5] (fun t i _p wr => ∃ k : Nat, k ≤ l.length ∧ i = .int .i64 k ∧ t = .string (xQ (l.take k)) ∧ Below w.heap.size w wr) (fun _ i _ _ => l.length - (intOf i).toNat)
  case atStart => exact ⟨0, Nat.zero_le _, rfl, rfl, Below.refl _ _⟩
  case round =>
    obtain ⟨k, hk, rfl, rfl, hbel⟩ := hrel
    have hsz := hbel.size
    have hlen := xL_len k hk (fun j hj => hA j (by omega))
    rw [← xQ_size] at hlen
    by_cases hlt : k < l.length
    · have q : (k : Int) < (l.length : Int) := by omega
      obtain ⟨g, off, e, hg, d0, d1, d2, d3⟩ := h.below hbel k hlt
      subst e
      have hz := (eiF_zero (hA k hlt)).1
      obtain ⟨C, hCe⟩ : ∃ C, l.getD k onil = C := ⟨_, rfl⟩
      obtain ⟨x0, x1, x2, x3⟩ := C
      rw [hCe] at d0 d1 d2 d3 hz
      simp only [] at d0 d1 d2 d3
      obtain ⟨n0, n1, n2, n3⟩ := ei_zero hz
      simp only [] at n0 n1 n2 n3
      obtain ⟨q0, q1⟩ := inB03 n1
      have y0 := pf_size n0
      have y3 := Te.isOf_size n3
      have y1 := it_size q0 (by omega)
      obtain ⟨n, rfl⟩ := Int.eq_ofNat_of_zero_le q0
      have hn3 : n ≤ 3 := by omega
      rw [it_dec] at y1
      have ht := xQ_take l k n x0 x2 x3 hlt hCe
      obtain ⟨T, hT⟩ : ∃ T, xQ (l.take k) = T := ⟨_, rfl⟩
      rw [hT] at ht hlen ⊢
      have hTs : T.size ≤ 20000 := by omega
      obtain ⟨D, hD⟩ : ∃ D, decB n = D := ⟨_, rfl⟩
      have hL := fun w => l3Digits n n (Nat.le_refl _) (by omega) w
      rw [hD] at ht y1 hL
      clear hCe hz n0 n1 n3 hT hlen q0 q1 hD
      rcases inB12 n2 with rfl | rfl
      · have HT : Hid (xQ (l.take (k + 1)) = T ++ D ++ ⟨#[32]⟩ ++ ⟨#[102, 105, 108, 101]⟩ ++ ⟨#[32]⟩ ++ x3 ++ ⟨#[32]⟩ ++ x0 ++ ⟨#[10]⟩) := ht
        obtain ⟨V, hV⟩ : ∃ V, wr.alloc (.cells #[.string x0, .int .i64 (n : Int), .int .i64 1, .string x3] 51) = V := ⟨_, rfl⟩
        have bV : Below wr.heap.size wr V := by rw [← hV]; exact allocBelow _ _
        have oV : Rf V wr.heap.size [.string x0, .int .i64 (n : Int), .int .i64 1, .string x3] := by rw [← hV]; exact Rf.new _ _ _
        have zV : wr.heap.size < V.heap.size := by rw [← hV]; simp
        have BV : Below w.heap.size w V := below_step hbel hsz bV
        have e0 := oV.at_ 0 _ rfl
        have e1 := oV.at_ 1 _ rfl
        have e2 := oV.at_ 2 _ rfl
        have e3 := oV.at_ 3 _ rfl
        clear ht n2 oV
        go_wp2
        refine wp_region_held_drew (S := fun w' => w'.cell? ⟨wr.heap.size, 0, none⟩ = some (.string x0) ∧ w'.cell? ⟨wr.heap.size, 1, none⟩ = some (.int .i64 (n : Int)) ∧ w'.cell? ⟨wr.heap.size, 2, none⟩ = some (.int .i64 1) ∧ w'.cell? ⟨wr.heap.size, 3, none⟩ = some (.string x3)) (by kernel_rfl) ⟨e0, e1, e2, e3⟩ (fun hHeld => ?_)
        refine Te.takeD (i := 0) (d := 16) (oi := _) (v := ?_) (listed' := #[true, false, false, false, false, false, false, false, false, false, false, false, false, false, false, false, false, false, false, false, false, false]) rfl (by kernel_rfl) (by kernel_rfl) (by kernel_rfl) (fun _ _ _ h => h) (Or.inl ⟨by rfl, ?_⟩) hHeld (by kernel_rfl) (by kernel_rfl) ?_
        rotate_left
        · intro w hSw
          try dsimp only at hSw
          first
            | (go_simp; done)
            | (go_simp; with_reducible rfl)
        simp only [Act.put, List.setIfInBounds_toArray, List.set_cons_zero, List.set_cons_succ]
        refine Te.takeD (i := 1) (d := 17) (oi := _) (v := ?_) (listed' := #[true, true, false, false, false, false, false, false, false, false, false, false, false, false, false, false, false, false, false, false, false, false]) rfl (by kernel_rfl) (by kernel_rfl) (by kernel_rfl) (fun _ _ _ h => h) (Or.inl ⟨by rfl, ?_⟩) hHeld (by kernel_rfl) (by kernel_rfl) ?_
        rotate_left
        · intro w hSw
          try dsimp only at hSw
          first
            | (go_simp; done)
            | (go_simp; with_reducible rfl)
        simp only [Act.put, List.setIfInBounds_toArray, List.set_cons_zero, List.set_cons_succ]
        refine Te.takeD (i := 2) (d := 18) (oi := _) (v := ?_) (listed' := #[true, true, true, false, false, false, false, false, false, false, false, false, false, false, false, false, false, false, false, false, false, false]) rfl (by kernel_rfl) (by kernel_rfl) (by kernel_rfl) (fun _ _ _ h => h) (Or.inl ⟨by rfl, ?_⟩) hHeld (by kernel_rfl) (by kernel_rfl) ?_
        rotate_left
        · intro w hSw
          try dsimp only at hSw
          first
            | (go_simp; done)
            | (go_simp; with_reducible rfl)
        simp only [Act.put, List.setIfInBounds_toArray, List.set_cons_zero, List.set_cons_succ]
        refine Te.takeD (i := 7) (d := 23) (oi := _) (v := ?_) (listed' := #[true, true, true, false, false, false, false, true, false, false, false, false, false, false, false, false, false, false, false, false, false, false]) rfl (by kernel_rfl) (by kernel_rfl) (by kernel_rfl) (fun _ _ _ h => h) (Or.inl ⟨by rfl, ?_⟩) hHeld (by kernel_rfl) (by kernel_rfl) ?_
        rotate_left
        · intro w hSw
          try dsimp only at hSw
          first
            | (go_simp; done)
            | (go_simp; with_reducible rfl)
        simp only [Act.put, List.setIfInBounds_toArray, List.set_cons_zero, List.set_cons_succ]
        refine Te.takeD (i := 8) (d := 24) (oi := _) (v := ?_) (listed' := #[true, true, true, false, false, false, false, true, true, false, false, false, false, false, false, false, false, false, false, false, false, false]) rfl (by kernel_rfl) (by kernel_rfl) (by kernel_rfl) (fun _ _ _ h => h) (Or.inl ⟨by rfl, ?_⟩) hHeld (by kernel_rfl) (by kernel_rfl) ?_
        rotate_left
        · intro w hSw
          try dsimp only at hSw
          first
            | (go_simp; done)
            | (go_simp; with_reducible rfl)
        simp only [Act.put, List.setIfInBounds_toArray, List.set_cons_zero, List.set_cons_succ]
        refine Te.takeD (i := 13) (d := 29) (oi := _) (v := ?_) (listed' := #[true, true, true, false, false, false, false, true, true, false, false, false, false, true, false, false, false, false, false, false, false, false]) rfl (by kernel_rfl) (by kernel_rfl) (by kernel_rfl) (fun _ _ _ h => h) (Or.inl ⟨by rfl, ?_⟩) hHeld (by kernel_rfl) (by kernel_rfl) ?_
        rotate_left
        · intro w hSw
          try dsimp only at hSw
          first
            | (go_simp; done)
            | (go_simp; with_reducible rfl)
        simp only [Act.put, List.setIfInBounds_toArray, List.set_cons_zero, List.set_cons_succ]
        refine Te.takeD (i := 14) (d := 30) (oi := _) (v := ?_) (listed' := #[true, true, true, false, false, false, false, true, true, false, false, false, false, true, true, false, false, false, false, false, false, false]) rfl (by kernel_rfl) (by kernel_rfl) (by kernel_rfl) (fun _ _ _ h => h) (Or.inl ⟨by rfl, ?_⟩) hHeld (by kernel_rfl) (by kernel_rfl) ?_
        rotate_left
        · intro w hSw
          try dsimp only at hSw
          first
            | (go_simp; done)
            | (go_simp; with_reducible rfl)
        simp only [Act.put, List.setIfInBounds_toArray, List.set_cons_zero, List.set_cons_succ]
        refine Te.takeD (i := 17) (d := 33) (oi := _) (v := ?_) (listed' := #[true, true, true, false, false, false, false, true, true, false, false, false, false, true, true, false, false, true, false, false, false, false]) rfl (by kernel_rfl) (by kernel_rfl) (by kernel_rfl) (fun _ _ _ h => h) (Or.inl ⟨by rfl, ?_⟩) hHeld (by kernel_rfl) (by kernel_rfl) ?_
        rotate_left
        · intro w hSw
          try dsimp only at hSw
          first
            | (go_simp; done)
            | (go_simp; with_reducible rfl)
        simp only [Act.put, List.setIfInBounds_toArray, List.set_cons_zero, List.set_cons_succ]
        refine Te.takeD (i := 18) (d := 34) (oi := _) (v := ?_) (listed' := #[true, true, true, false, false, false, false, true, true, false, false, false, false, true, true, false, false, true, true, false, false, false]) rfl (by kernel_rfl) (by kernel_rfl) (by kernel_rfl) (fun _ _ _ h => h) (Or.inl ⟨by rfl, ?_⟩) hHeld (by kernel_rfl) (by kernel_rfl) ?_
        rotate_left
        · intro w hSw
          try dsimp only at hSw
          first
            | (go_simp; done)
            | (go_simp; with_reducible rfl)
        simp only [Act.put, List.setIfInBounds_toArray, List.set_cons_zero, List.set_cons_succ]
        refine wpAnyH_ready (rs := [3]) (by kernel_rfl) (by simp) ?_
        refine AllReadyH.cons (o := _) rfl (fun K hK => ?_) AllReadyH.nil
        go_simp
        refine (hL _).mono ?_
        rintro e w1 ⟨rfl, hb1⟩
        have b1 : Below V.heap.size V w1 := (below_drew (Below.refl _ _)).trans hb1
        have z1 : wr.heap.size < w1.heap.size := Nat.lt_of_lt_of_le zV b1.size
        have k0 := Te.keep3 b1 zV e0
        have k1 := Te.keep3 b1 zV e1
        have k2 := Te.keep3 b1 zV e2
        have k3 := Te.keep3 b1 zV e3
        refine hK.out _ _ ⟨k0, k1, k2, k3⟩ (fun hS1 => ?_)
        simp only [List.setIfInBounds_toArray, List.set_cons_zero, List.set_cons_succ]
        refine Te.takeD (i := 4) (d := 20) (oi := _) (v := ?_) (listed' := #[true, true, true, true, true, false, false, true, true, false, false, false, false, true, true, false, false, true, true, false, false, false]) rfl (by kernel_rfl) (by kernel_rfl) (by kernel_rfl) (fun _ _ _ h => h) (Or.inl ⟨by rfl, ?_⟩) hS1 (by kernel_rfl) (by kernel_rfl) ?_
        rotate_left
        · intro w hSw
          try dsimp only at hSw
          first
            | (go_simp; done)
            | (go_simp; with_reducible rfl)
            | (go_simp; rw [if_neg (by omega)])
        simp only [Act.put, List.setIfInBounds_toArray, List.set_cons_zero, List.set_cons_succ]
        refine Te.takeD (i := 5) (d := 21) (oi := _) (v := ?_) (listed' := #[true, true, true, true, true, true, false, true, true, false, false, false, false, true, true, false, false, true, true, false, false, false]) rfl (by kernel_rfl) (by kernel_rfl) (by kernel_rfl) (fun _ _ _ h => h) (Or.inl ⟨by rfl, ?_⟩) hS1 (by kernel_rfl) (by kernel_rfl) ?_
        rotate_left
        · intro w hSw
          try dsimp only at hSw
          first
            | (go_simp; done)
            | (go_simp; with_reducible rfl)
            | (go_simp; rw [if_neg (by omega)])
        simp only [Act.put, List.setIfInBounds_toArray, List.set_cons_zero, List.set_cons_succ]
        refine wpAnyH_ready (rs := [6]) (by kernel_rfl) (by simp) ?_
        refine AllReadyH.cons (o := _) rfl (fun K2 hK2 => ?_) AllReadyH.nil
        go_simp
        refine (l6WordsP _).mono ?_
        rintro e w2 ⟨rfl, b2, c1, c2⟩
        refine hK2.out _ _ ⟨Te.keep3 b2 z1 k0, Te.keep3 b2 z1 k1, Te.keep3 b2 z1 k2, Te.keep3 b2 z1 k3⟩ (fun hS2 => ?_)
        refine Te.moreS (S' := fun w' => w'.cell? ⟨w1.heap.size, 1, none⟩ = some (.string ⟨#[102, 105, 108, 101]⟩) ∧ w'.cell? ⟨wr.heap.size, 0, none⟩ = some (.string x0) ∧ w'.cell? ⟨wr.heap.size, 1, none⟩ = some (.int .i64 (n : Int)) ∧ w'.cell? ⟨wr.heap.size, 2, none⟩ = some (.int .i64 1) ∧ w'.cell? ⟨wr.heap.size, 3, none⟩ = some (.string x3)) (fun _ h => h.2) _ _ _ _ ?_
        simp only [List.setIfInBounds_toArray, List.set_cons_zero, List.set_cons_succ]
        refine Te.takeD (i := 9) (d := 25) (oi := _) (v := ?_) (listed' := #[true, true, true, true, true, true, true, true, true, true, false, false, false, true, true, false, false, true, true, false, false, false]) rfl (by kernel_rfl) (by kernel_rfl) (by kernel_rfl) (fun _ _ _ h => h) (Or.inl ⟨by rfl, ?_⟩) ⟨c1, hS2⟩ (by kernel_rfl) (by kernel_rfl) ?_
        rotate_left
        · intro w hSw
          try dsimp only at hSw
          first
            | (go_simp; done)
            | (go_simp; with_reducible rfl)
        simp only [Act.put, List.setIfInBounds_toArray, List.set_cons_zero, List.set_cons_succ]
        refine Te.takeD (i := 10) (d := 26) (oi := _) (v := ?_) (listed' := #[true, true, true, true, true, true, true, true, true, true, true, false, false, true, true, false, false, true, true, false, false, false]) rfl (by kernel_rfl) (by kernel_rfl) (by kernel_rfl) (fun _ _ _ h => h) (Or.inl ⟨by rfl, ?_⟩) ⟨c1, hS2⟩ (by kernel_rfl) (by kernel_rfl) ?_
        rotate_left
        · intro w hSw
          try dsimp only at hSw
          first
            | (go_simp; done)
            | (go_simp; with_reducible rfl)
        simp only [Act.put, List.setIfInBounds_toArray, List.set_cons_zero, List.set_cons_succ]
        refine Te.takeD (i := 11) (d := 27) (oi := _) (v := ?_) (listed' := #[true, true, true, true, true, true, true, true, true, true, true, true, false, true, true, false, false, true, true, false, false, false]) rfl (by kernel_rfl) (by kernel_rfl) (by kernel_rfl) (fun _ _ _ h => h) (Or.inl ⟨by rfl, ?_⟩) ⟨c1, hS2⟩ (by kernel_rfl) (by kernel_rfl) ?_
        rotate_left
        · intro w hSw
          try dsimp only at hSw
          first
            | (go_simp; done)
            | (go_simp; with_reducible rfl)
            | (go_simp; rw [if_neg (by omega)])
        simp only [Act.put, List.setIfInBounds_toArray, List.set_cons_zero, List.set_cons_succ]
        refine Te.takeD (i := 12) (d := 28) (oi := _) (v := ?_) (listed' := #[true, true, true, true, true, true, true, true, true, true, true, true, true, true, true, false, false, true, true, false, false, false]) rfl (by kernel_rfl) (by kernel_rfl) (by kernel_rfl) (fun _ _ _ h => h) (Or.inl ⟨by rfl, ?_⟩) ⟨c1, hS2⟩ (by kernel_rfl) (by kernel_rfl) ?_
        rotate_left
        · intro w hSw
          try dsimp only at hSw
          first
            | (go_simp; done)
            | (go_simp; with_reducible rfl)
            | (go_simp; rw [if_neg (by omega)])
        simp only [Act.put, List.setIfInBounds_toArray, List.set_cons_zero, List.set_cons_succ]
        refine Te.takeD (i := 15) (d := 31) (oi := _) (v := ?_) (listed' := #[true, true, true, true, true, true, true, true, true, true, true, true, true, true, true, true, false, true, true, false, false, false]) rfl (by kernel_rfl) (by kernel_rfl) (by kernel_rfl) (fun _ _ _ h => h) (Or.inl ⟨by rfl, ?_⟩) ⟨c1, hS2⟩ (by kernel_rfl) (by kernel_rfl) ?_
        rotate_left
        · intro w hSw
          try dsimp only at hSw
          first
            | (go_simp; done)
            | (go_simp; with_reducible rfl)
            | (go_simp; rw [if_neg (by omega)])
        simp only [Act.put, List.setIfInBounds_toArray, List.set_cons_zero, List.set_cons_succ]
        refine Te.takeD (i := 16) (d := 32) (oi := _) (v := ?_) (listed' := #[true, true, true, true, true, true, true, true, true, true, true, true, true, true, true, true, true, true, true, false, false, false]) rfl (by kernel_rfl) (by kernel_rfl) (by kernel_rfl) (fun _ _ _ h => h) (Or.inl ⟨by rfl, ?_⟩) ⟨c1, hS2⟩ (by kernel_rfl) (by kernel_rfl) ?_
        rotate_left
        · intro w hSw
          try dsimp only at hSw
          first
            | (go_simp; done)
            | (go_simp; with_reducible rfl)
            | (go_simp; rw [if_neg (by omega)])
        simp only [Act.put, List.setIfInBounds_toArray, List.set_cons_zero, List.set_cons_succ]
        refine Te.takeD (i := 19) (d := 35) (oi := _) (v := ?_) (listed' := #[true, true, true, true, true, true, true, true, true, true, true, true, true, true, true, true, true, true, true, true, false, false]) rfl (by kernel_rfl) (by kernel_rfl) (by kernel_rfl) (fun _ _ _ h => h) (Or.inl ⟨by rfl, ?_⟩) ⟨c1, hS2⟩ (by kernel_rfl) (by kernel_rfl) ?_
        rotate_left
        · intro w hSw
          try dsimp only at hSw
          first
            | (go_simp; done)
            | (go_simp; with_reducible rfl)
            | (go_simp; rw [if_neg (by omega)])
        simp only [Act.put, List.setIfInBounds_toArray, List.set_cons_zero, List.set_cons_succ]
        refine Te.takeD (i := 20) (d := 36) (oi := _) (v := ?_) (listed' := #[true, true, true, true, true, true, true, true, true, true, true, true, true, true, true, true, true, true, true, true, true, false]) rfl (by kernel_rfl) (by kernel_rfl) (by kernel_rfl) (fun _ _ _ h => h) (Or.inl ⟨by rfl, ?_⟩) ⟨c1, hS2⟩ (by kernel_rfl) (by kernel_rfl) ?_
        rotate_left
        · intro w hSw
          try dsimp only at hSw
          first
            | (go_simp; done)
            | (go_simp; with_reducible rfl)
            | (go_simp; rw [if_neg (by omega)])
        simp only [Act.put, List.setIfInBounds_toArray, List.set_cons_zero, List.set_cons_succ]
        refine Te.takeD (i := 21) (d := 3) (oi := _) (v := ?_) (listed' := #[true, true, true, true, true, true, true, true, true, true, true, true, true, true, true, true, true, true, true, true, true, true]) rfl (by kernel_rfl) (by kernel_rfl) (by kernel_rfl) (fun _ _ _ h => h) (Or.inl ⟨by rfl, ?_⟩) ⟨c1, hS2⟩ (by kernel_rfl) (by kernel_rfl) ?_
        rotate_left
        · intro w hSw
          try dsimp only at hSw
          first
            | (go_simp; done)
            | (go_simp; with_reducible rfl)
        simp only [Act.put, List.setIfInBounds_toArray, List.set_cons_zero, List.set_cons_succ]
        refine wpAnyH_done (by kernel_rfl) ?_ _
        have B1 := below_step BV BV.size b1
        have B2 := below_step B1 B1.size b2
        clear hK hK2 c1 c2 hb1 b1 b2 e0 e1 e2 e3 k0 k1 k2 k3 hL
        go_wp2
        go_roundw
        case rel => exact ⟨k + 1, by omega, by go_num, by rw [HT.out], B2⟩
        case measure => first | (simp [intOf]; omega) | simp [intOf]
      · have HT : Hid (xQ (l.take (k + 1)) = T ++ D ++ ⟨#[32]⟩ ++ ⟨#[114, 117, 110]⟩ ++ ⟨#[32]⟩ ++ x3 ++ ⟨#[32]⟩ ++ x0 ++ ⟨#[10]⟩) := ht
        obtain ⟨V, hV⟩ : ∃ V, wr.alloc (.cells #[.string x0, .int .i64 (n : Int), .int .i64 2, .string x3] 51) = V := ⟨_, rfl⟩
        have bV : Below wr.heap.size wr V := by rw [← hV]; exact allocBelow _ _
        have oV : Rf V wr.heap.size [.string x0, .int .i64 (n : Int), .int .i64 2, .string x3] := by rw [← hV]; exact Rf.new _ _ _
        have zV : wr.heap.size < V.heap.size := by rw [← hV]; simp
        have BV : Below w.heap.size w V := below_step hbel hsz bV
        have e0 := oV.at_ 0 _ rfl
        have e1 := oV.at_ 1 _ rfl
        have e2 := oV.at_ 2 _ rfl
        have e3 := oV.at_ 3 _ rfl
        clear ht n2 oV
        go_wp2
        refine wp_region_held_drew (S := fun w' => w'.cell? ⟨wr.heap.size, 0, none⟩ = some (.string x0) ∧ w'.cell? ⟨wr.heap.size, 1, none⟩ = some (.int .i64 (n : Int)) ∧ w'.cell? ⟨wr.heap.size, 2, none⟩ = some (.int .i64 2) ∧ w'.cell? ⟨wr.heap.size, 3, none⟩ = some (.string x3)) (by kernel_rfl) ⟨e0, e1, e2, e3⟩ (fun hHeld => ?_)
        refine Te.takeD (i := 0) (d := 16) (oi := _) (v := ?_) (listed' := #[true, false, false, false, false, false, false, false, false, false, false, false, false, false, false, false, false, false, false, false, false, false]) rfl (by kernel_rfl) (by kernel_rfl) (by kernel_rfl) (fun _ _ _ h => h) (Or.inl ⟨by rfl, ?_⟩) hHeld (by kernel_rfl) (by kernel_rfl) ?_
        rotate_left
        · intro w hSw
          try dsimp only at hSw
          first
            | (go_simp; done)
            | (go_simp; with_reducible rfl)
        simp only [Act.put, List.setIfInBounds_toArray, List.set_cons_zero, List.set_cons_succ]
        refine Te.takeD (i := 1) (d := 17) (oi := _) (v := ?_) (listed' := #[true, true, false, false, false, false, false, false, false, false, false, false, false, false, false, false, false, false, false, false, false, false]) rfl (by kernel_rfl) (by kernel_rfl) (by kernel_rfl) (fun _ _ _ h => h) (Or.inl ⟨by rfl, ?_⟩) hHeld (by kernel_rfl) (by kernel_rfl) ?_
        rotate_left
        · intro w hSw
          try dsimp only at hSw
          first
            | (go_simp; done)
            | (go_simp; with_reducible rfl)
        simp only [Act.put, List.setIfInBounds_toArray, List.set_cons_zero, List.set_cons_succ]
        refine Te.takeD (i := 2) (d := 18) (oi := _) (v := ?_) (listed' := #[true, true, true, false, false, false, false, false, false, false, false, false, false, false, false, false, false, false, false, false, false, false]) rfl (by kernel_rfl) (by kernel_rfl) (by kernel_rfl) (fun _ _ _ h => h) (Or.inl ⟨by rfl, ?_⟩) hHeld (by kernel_rfl) (by kernel_rfl) ?_
        rotate_left
        · intro w hSw
          try dsimp only at hSw
          first
            | (go_simp; done)
            | (go_simp; with_reducible rfl)
        simp only [Act.put, List.setIfInBounds_toArray, List.set_cons_zero, List.set_cons_succ]
        refine Te.takeD (i := 7) (d := 23) (oi := _) (v := ?_) (listed' := #[true, true, true, false, false, false, false, true, false, false, false, false, false, false, false, false, false, false, false, false, false, false]) rfl (by kernel_rfl) (by kernel_rfl) (by kernel_rfl) (fun _ _ _ h => h) (Or.inl ⟨by rfl, ?_⟩) hHeld (by kernel_rfl) (by kernel_rfl) ?_
        rotate_left
        · intro w hSw
          try dsimp only at hSw
          first
            | (go_simp; done)
            | (go_simp; with_reducible rfl)
        simp only [Act.put, List.setIfInBounds_toArray, List.set_cons_zero, List.set_cons_succ]
        refine Te.takeD (i := 8) (d := 24) (oi := _) (v := ?_) (listed' := #[true, true, true, false, false, false, false, true, true, false, false, false, false, false, false, false, false, false, false, false, false, false]) rfl (by kernel_rfl) (by kernel_rfl) (by kernel_rfl) (fun _ _ _ h => h) (Or.inl ⟨by rfl, ?_⟩) hHeld (by kernel_rfl) (by kernel_rfl) ?_
        rotate_left
        · intro w hSw
          try dsimp only at hSw
          first
            | (go_simp; done)
            | (go_simp; with_reducible rfl)
        simp only [Act.put, List.setIfInBounds_toArray, List.set_cons_zero, List.set_cons_succ]
        refine Te.takeD (i := 13) (d := 29) (oi := _) (v := ?_) (listed' := #[true, true, true, false, false, false, false, true, true, false, false, false, false, true, false, false, false, false, false, false, false, false]) rfl (by kernel_rfl) (by kernel_rfl) (by kernel_rfl) (fun _ _ _ h => h) (Or.inl ⟨by rfl, ?_⟩) hHeld (by kernel_rfl) (by kernel_rfl) ?_
        rotate_left
        · intro w hSw
          try dsimp only at hSw
          first
            | (go_simp; done)
            | (go_simp; with_reducible rfl)
        simp only [Act.put, List.setIfInBounds_toArray, List.set_cons_zero, List.set_cons_succ]
        refine Te.takeD (i := 14) (d := 30) (oi := _) (v := ?_) (listed' := #[true, true, true, false, false, false, false, true, true, false, false, false, false, true, true, false, false, false, false, false, false, false]) rfl (by kernel_rfl) (by kernel_rfl) (by kernel_rfl) (fun _ _ _ h => h) (Or.inl ⟨by rfl, ?_⟩) hHeld (by kernel_rfl) (by kernel_rfl) ?_
        rotate_left
        · intro w hSw
          try dsimp only at hSw
          first
            | (go_simp; done)
            | (go_simp; with_reducible rfl)
        simp only [Act.put, List.setIfInBounds_toArray, List.set_cons_zero, List.set_cons_succ]
        refine Te.takeD (i := 17) (d := 33) (oi := _) (v := ?_) (listed' := #[true, true, true, false, false, false, false, true, true, false, false, false, false, true, true, false, false, true, false, false, false, false]) rfl (by kernel_rfl) (by kernel_rfl) (by kernel_rfl) (fun _ _ _ h => h) (Or.inl ⟨by rfl, ?_⟩) hHeld (by kernel_rfl) (by kernel_rfl) ?_
        rotate_left
        · intro w hSw
          try dsimp only at hSw
          first
            | (go_simp; done)
            | (go_simp; with_reducible rfl)
        simp only [Act.put, List.setIfInBounds_toArray, List.set_cons_zero, List.set_cons_succ]
        refine Te.takeD (i := 18) (d := 34) (oi := _) (v := ?_) (listed' := #[true, true, true, false, false, false, false, true, true, false, false, false, false, true, true, false, false, true, true, false, false, false]) rfl (by kernel_rfl) (by kernel_rfl) (by kernel_rfl) (fun _ _ _ h => h) (Or.inl ⟨by rfl, ?_⟩) hHeld (by kernel_rfl) (by kernel_rfl) ?_
        rotate_left
        · intro w hSw
          try dsimp only at hSw
          first
            | (go_simp; done)
            | (go_simp; with_reducible rfl)
        simp only [Act.put, List.setIfInBounds_toArray, List.set_cons_zero, List.set_cons_succ]
        refine wpAnyH_ready (rs := [3]) (by kernel_rfl) (by simp) ?_
        refine AllReadyH.cons (o := _) rfl (fun K hK => ?_) AllReadyH.nil
        go_simp
        refine (hL _).mono ?_
        rintro e w1 ⟨rfl, hb1⟩
        have b1 : Below V.heap.size V w1 := (below_drew (Below.refl _ _)).trans hb1
        have z1 : wr.heap.size < w1.heap.size := Nat.lt_of_lt_of_le zV b1.size
        have k0 := Te.keep3 b1 zV e0
        have k1 := Te.keep3 b1 zV e1
        have k2 := Te.keep3 b1 zV e2
        have k3 := Te.keep3 b1 zV e3
        refine hK.out _ _ ⟨k0, k1, k2, k3⟩ (fun hS1 => ?_)
        simp only [List.setIfInBounds_toArray, List.set_cons_zero, List.set_cons_succ]
        refine Te.takeD (i := 4) (d := 20) (oi := _) (v := ?_) (listed' := #[true, true, true, true, true, false, false, true, true, false, false, false, false, true, true, false, false, true, true, false, false, false]) rfl (by kernel_rfl) (by kernel_rfl) (by kernel_rfl) (fun _ _ _ h => h) (Or.inl ⟨by rfl, ?_⟩) hS1 (by kernel_rfl) (by kernel_rfl) ?_
        rotate_left
        · intro w hSw
          try dsimp only at hSw
          first
            | (go_simp; done)
            | (go_simp; with_reducible rfl)
            | (go_simp; rw [if_neg (by omega)])
        simp only [Act.put, List.setIfInBounds_toArray, List.set_cons_zero, List.set_cons_succ]
        refine Te.takeD (i := 5) (d := 21) (oi := _) (v := ?_) (listed' := #[true, true, true, true, true, true, false, true, true, false, false, false, false, true, true, false, false, true, true, false, false, false]) rfl (by kernel_rfl) (by kernel_rfl) (by kernel_rfl) (fun _ _ _ h => h) (Or.inl ⟨by rfl, ?_⟩) hS1 (by kernel_rfl) (by kernel_rfl) ?_
        rotate_left
        · intro w hSw
          try dsimp only at hSw
          first
            | (go_simp; done)
            | (go_simp; with_reducible rfl)
            | (go_simp; rw [if_neg (by omega)])
        simp only [Act.put, List.setIfInBounds_toArray, List.set_cons_zero, List.set_cons_succ]
        refine wpAnyH_ready (rs := [6]) (by kernel_rfl) (by simp) ?_
        refine AllReadyH.cons (o := _) rfl (fun K2 hK2 => ?_) AllReadyH.nil
        go_simp
        refine (l6WordsP _).mono ?_
        rintro e w2 ⟨rfl, b2, c1, c2⟩
        refine hK2.out _ _ ⟨Te.keep3 b2 z1 k0, Te.keep3 b2 z1 k1, Te.keep3 b2 z1 k2, Te.keep3 b2 z1 k3⟩ (fun hS2 => ?_)
        refine Te.moreS (S' := fun w' => w'.cell? ⟨w1.heap.size, 2, none⟩ = some (.string ⟨#[114, 117, 110]⟩) ∧ w'.cell? ⟨wr.heap.size, 0, none⟩ = some (.string x0) ∧ w'.cell? ⟨wr.heap.size, 1, none⟩ = some (.int .i64 (n : Int)) ∧ w'.cell? ⟨wr.heap.size, 2, none⟩ = some (.int .i64 2) ∧ w'.cell? ⟨wr.heap.size, 3, none⟩ = some (.string x3)) (fun _ h => h.2) _ _ _ _ ?_
        simp only [List.setIfInBounds_toArray, List.set_cons_zero, List.set_cons_succ]
        refine Te.takeD (i := 9) (d := 25) (oi := _) (v := ?_) (listed' := #[true, true, true, true, true, true, true, true, true, true, false, false, false, true, true, false, false, true, true, false, false, false]) rfl (by kernel_rfl) (by kernel_rfl) (by kernel_rfl) (fun _ _ _ h => h) (Or.inl ⟨by rfl, ?_⟩) ⟨c2, hS2⟩ (by kernel_rfl) (by kernel_rfl) ?_
        rotate_left
        · intro w hSw
          try dsimp only at hSw
          first
            | (go_simp; done)
            | (go_simp; with_reducible rfl)
        simp only [Act.put, List.setIfInBounds_toArray, List.set_cons_zero, List.set_cons_succ]
        refine Te.takeD (i := 10) (d := 26) (oi := _) (v := ?_) (listed' := #[true, true, true, true, true, true, true, true, true, true, true, false, false, true, true, false, false, true, true, false, false, false]) rfl (by kernel_rfl) (by kernel_rfl) (by kernel_rfl) (fun _ _ _ h => h) (Or.inl ⟨by rfl, ?_⟩) ⟨c2, hS2⟩ (by kernel_rfl) (by kernel_rfl) ?_
        rotate_left
        · intro w hSw
          try dsimp only at hSw
          first
            | (go_simp; done)
            | (go_simp; with_reducible rfl)
        simp only [Act.put, List.setIfInBounds_toArray, List.set_cons_zero, List.set_cons_succ]
        refine Te.takeD (i := 11) (d := 27) (oi := _) (v := ?_) (listed' := #[true, true, true, true, true, true, true, true, true, true, true, true, false, true, true, false, false, true, true, false, false, false]) rfl (by kernel_rfl) (by kernel_rfl) (by kernel_rfl) (fun _ _ _ h => h) (Or.inl ⟨by rfl, ?_⟩) ⟨c2, hS2⟩ (by kernel_rfl) (by kernel_rfl) ?_
        rotate_left
        · intro w hSw
          try dsimp only at hSw
          first
            | (go_simp; done)
            | (go_simp; with_reducible rfl)
            | (go_simp; rw [if_neg (by omega)])
        simp only [Act.put, List.setIfInBounds_toArray, List.set_cons_zero, List.set_cons_succ]
        refine Te.takeD (i := 12) (d := 28) (oi := _) (v := ?_) (listed' := #[true, true, true, true, true, true, true, true, true, true, true, true, true, true, true, false, false, true, true, false, false, false]) rfl (by kernel_rfl) (by kernel_rfl) (by kernel_rfl) (fun _ _ _ h => h) (Or.inl ⟨by rfl, ?_⟩) ⟨c2, hS2⟩ (by kernel_rfl) (by kernel_rfl) ?_
        rotate_left
        · intro w hSw
          try dsimp only at hSw
          first
            | (go_simp; done)
            | (go_simp; with_reducible rfl)
            | (go_simp; rw [if_neg (by omega)])
        simp only [Act.put, List.setIfInBounds_toArray, List.set_cons_zero, List.set_cons_succ]
        refine Te.takeD (i := 15) (d := 31) (oi := _) (v := ?_) (listed' := #[true, true, true, true, true, true, true, true, true, true, true, true, true, true, true, true, false, true, true, false, false, false]) rfl (by kernel_rfl) (by kernel_rfl) (by kernel_rfl) (fun _ _ _ h => h) (Or.inl ⟨by rfl, ?_⟩) ⟨c2, hS2⟩ (by kernel_rfl) (by kernel_rfl) ?_
        rotate_left
        · intro w hSw
          try dsimp only at hSw
          first
            | (go_simp; done)
            | (go_simp; with_reducible rfl)
            | (go_simp; rw [if_neg (by omega)])
        simp only [Act.put, List.setIfInBounds_toArray, List.set_cons_zero, List.set_cons_succ]
        refine Te.takeD (i := 16) (d := 32) (oi := _) (v := ?_) (listed' := #[true, true, true, true, true, true, true, true, true, true, true, true, true, true, true, true, true, true, true, false, false, false]) rfl (by kernel_rfl) (by kernel_rfl) (by kernel_rfl) (fun _ _ _ h => h) (Or.inl ⟨by rfl, ?_⟩) ⟨c2, hS2⟩ (by kernel_rfl) (by kernel_rfl) ?_
        rotate_left
        · intro w hSw
          try dsimp only at hSw
          first
            | (go_simp; done)
            | (go_simp; with_reducible rfl)
            | (go_simp; rw [if_neg (by omega)])
        simp only [Act.put, List.setIfInBounds_toArray, List.set_cons_zero, List.set_cons_succ]
        refine Te.takeD (i := 19) (d := 35) (oi := _) (v := ?_) (listed' := #[true, true, true, true, true, true, true, true, true, true, true, true, true, true, true, true, true, true, true, true, false, false]) rfl (by kernel_rfl) (by kernel_rfl) (by kernel_rfl) (fun _ _ _ h => h) (Or.inl ⟨by rfl, ?_⟩) ⟨c2, hS2⟩ (by kernel_rfl) (by kernel_rfl) ?_
        rotate_left
        · intro w hSw
          try dsimp only at hSw
          first
            | (go_simp; done)
            | (go_simp; with_reducible rfl)
            | (go_simp; rw [if_neg (by omega)])
        simp only [Act.put, List.setIfInBounds_toArray, List.set_cons_zero, List.set_cons_succ]
        refine Te.takeD (i := 20) (d := 36) (oi := _) (v := ?_) (listed' := #[true, true, true, true, true, true, true, true, true, true, true, true, true, true, true, true, true, true, true, true, true, false]) rfl (by kernel_rfl) (by kernel_rfl) (by kernel_rfl) (fun _ _ _ h => h) (Or.inl ⟨by rfl, ?_⟩) ⟨c2, hS2⟩ (by kernel_rfl) (by kernel_rfl) ?_
        rotate_left
        · intro w hSw
          try dsimp only at hSw
          first
            | (go_simp; done)
            | (go_simp; with_reducible rfl)
            | (go_simp; rw [if_neg (by omega)])
        simp only [Act.put, List.setIfInBounds_toArray, List.set_cons_zero, List.set_cons_succ]
        refine Te.takeD (i := 21) (d := 3) (oi := _) (v := ?_) (listed' := #[true, true, true, true, true, true, true, true, true, true, true, true, true, true, true, true, true, true, true, true, true, true]) rfl (by kernel_rfl) (by kernel_rfl) (by kernel_rfl) (fun _ _ _ h => h) (Or.inl ⟨by rfl, ?_⟩) ⟨c2, hS2⟩ (by kernel_rfl) (by kernel_rfl) ?_
        rotate_left
        · intro w hSw
          try dsimp only at hSw
          first
            | (go_simp; done)
            | (go_simp; with_reducible rfl)
        simp only [Act.put, List.setIfInBounds_toArray, List.set_cons_zero, List.set_cons_succ]
        refine wpAnyH_done (by kernel_rfl) ?_ _
        have B1 := below_step BV BV.size b1
        have B2 := below_step B1 B1.size b2
        clear hK hK2 c1 c2 hb1 b1 b2 e0 e1 e2 e3 k0 k1 k2 k3 hL
        go_wp2
        go_roundw
        case rel => exact ⟨k + 1, by omega, by go_num, by rw [HT.out], B2⟩
        case measure => first | (simp [intOf]; omega) | simp [intOf]
    · have q : ¬ (k : Int) < (l.length : Int) := by omega
      have e : l.take k = l := List.take_of_length_le (by omega)
      rw [e] at hlen ⊢
      obtain ⟨g0, g1⟩ := dig_bd (xL l)
      obtain ⟨n, hn⟩ := Int.eq_ofNat_of_zero_le g0
      have HX : Hid (xB l = xQ l ++ ⟨#[115, 117, 109, 32]⟩ ++ decB n ++ ⟨#[10]⟩) := xB_all l n hn
      have hD := fun w => specDigestOf (xQ l) w (by unfold maxLen; omega)
      have eq : (xQ l).data.toList = xL l := by simp [xQ]
      rw [eq, hn] at hD
      have hL := fun w => l3Digits n n (Nat.le_refl _) (by omega) w
      have yn : (decB n).size ≤ 10 := by have := it_size g0 (by omega); rw [hn] at this; exact this
      obtain ⟨T, hT⟩ : ∃ T, xQ l = T := ⟨_, rfl⟩
      obtain ⟨D, hDe⟩ : ∃ D, decB n = D := ⟨_, rfl⟩
      rw [hT] at hlen hD HX ⊢
      rw [hDe] at HX hL yn
      have hTs : T.size ≤ 20000 := by omega
      clear e hT hDe h hA eq
      go_wp2_with fail
      refine (hD _).mono ?_; rintro e wa ⟨rfl, rfl⟩
      go_wp2_with fail
      refine (hL _).mono ?_; rintro e wb ⟨rfl, bb⟩
      have Bb : Below w.heap.size w wb := below_step hbel hsz bb
      clear hD hL bb
      go_wp2
      go_ret
      exact ⟨by rw [HX.out]; rfl, Bb⟩
end Go.Proofs.YtjcnnmnnbjaheaaGreatDoor.En
