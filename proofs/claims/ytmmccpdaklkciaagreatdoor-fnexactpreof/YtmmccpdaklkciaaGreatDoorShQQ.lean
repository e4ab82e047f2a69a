/- The contract of shelfOf. No statement is proved here. -/
import Derived.Test.YtmmccpdaklkciaaGreatDoorRows
import Derived.Test.YtmmccpdaklkciaaGreatDoorLemQ
import Derived.Test.YtmmccpdaklkciaaGreatDoorDTabQ
import Derived.Test.YtmmccpdaklkciaaGreatDoorHkTQ
import Derived.Test.YtmmccpdaklkciaaGreatDoorDigCQ
import Derived.Test.YtmmccpdaklkciaaGreatDoorObLQ
import Derived.Test.YtmmccpdaklkciaaGreatDoorShMQ
import Derived.WalkKit
import Derived.ProofKit
import Derived.Below
import Derived.WalkSpells
import Derived.Laws.Cover1
import Derived.Test.YtmmccpdaklkciaaGreatDoorWvCQ
import Derived.Test.YtmmccpdaklkciaaGreatDoorIdLQ
import Derived.Deep.RegionWith
import Derived.Deep.RegionHeld
import Derived.Deep.CutRange
import Derived.Test.YtmmccpdaklkciaaGreatDoorFlLQ
import Derived.Test.YtmmccpdaklkciaaGreatDoorFlTQ
import Derived.Deep.QuietTactic
import Derived.BigQuiet
import Derived.Deep.Cut
namespace Go.Proofs.YtmmccpdaklkciaaGreatDoor
open Go.ChangeShapes Go.WideShapes Go.ChangeAt Go.RowKit

theorem bl_irr : ∀ a : List UInt8, Op.bytesLess a a = false
  | [] => rfl
  | x :: a => by
    have := bl_irr a
    simp [Op.bytesLess, this]
theorem bl_trans : ∀ a b c : List UInt8, Op.bytesLess a b = true → Op.bytesLess b c = true → Op.bytesLess a c = true
  | _, [], _, h, _ => by simp [Op.bytesLess] at h
  | _, _ :: _, [], _, h => by simp [Op.bytesLess] at h
  | [], _ :: _, _ :: _, _, _ => rfl
  | x :: a, y :: b, z :: c, h, k => by
    simp only [Op.bytesLess, Bool.or_eq_true, Bool.and_eq_true, decide_eq_true_eq, beq_iff_eq] at h k ⊢
    rcases h with h | ⟨rfl, h⟩
    · rcases k with k | ⟨rfl, k⟩
      · exact .inl (UInt8.lt_trans h k)
      · exact .inl h
    · rcases k with k | ⟨rfl, k⟩
      · exact .inl k
      · exact .inr ⟨rfl, bl_trans a b c h k⟩
theorem bl_total : ∀ a b : List UInt8, Op.bytesLess a b = true ∨ a = b ∨ Op.bytesLess b a = true
  | [], [] => .inr (.inl rfl)
  | [], _ :: _ => .inl rfl
  | _ :: _, [] => .inr (.inr rfl)
  | x :: a, y :: b => by
    simp only [Op.bytesLess, Bool.or_eq_true, Bool.and_eq_true, decide_eq_true_eq, beq_iff_eq]
    by_cases h1 : x < y
    · exact .inl (.inl h1)
    · by_cases h2 : y < x
      · exact .inr (.inr (.inl h2))
      · have e : x = y := by
          apply UInt8.toNat_inj.1
          have a1 : ¬ x.toNat < y.toNat := h1
          have a2 : ¬ y.toNat < x.toNat := h2
          omega
        subst e
        rcases bl_total a b with h | h | h
        · exact .inl (.inr ⟨rfl, h⟩)
        · exact .inr (.inl (by rw [h]))
        · exact .inr (.inr (.inr ⟨rfl, h⟩))
theorem sf_size {l : List Ob} (h : sf l = 0) (k : Nat) (hk : k < l.length) : (l.getD k onil).1.size = 5 := by
  have h0 := (sf_zero h).2 k hk
  unfold obF at h0
  split at h0
  · rename_i e
    split at h0
    · rename_i e2
      rw [← e2]
      unfold idK at e
      unfold idT
      split at e
      · rename_i e3
        rw [if_pos e3, if_pos e]
        rfl
      · omega
    · omega
  · rename_i e; exact absurd h0 e
theorem sf_step {l : List Ob} (h : sf l = 0) (k : Nat) (hk : k + 1 < l.length) : Op.bytesLess (l.getD k onil).1.toList (l.getD (k + 1) onil).1.toList = true := by
  have h0 := (sf_zero h).2 (k + 1) hk
  unfold obF at h0
  split at h0
  · split at h0
    · split at h0
      · omega
      · rename_i e
        have e' : ¬ leS (l.getD (k + 1) onil).1 (l.getD k onil).1 = true := fun e2 => e ⟨by omega, e2⟩
        unfold leS at e'
        rcases bl_total (l.getD k onil).1.toList (l.getD (k + 1) onil).1.toList with a | a | a
        · exact a
        · rw [a] at e'; simp at e'
        · rw [a] at e'; simp at e'
    · omega
  · rename_i e; exact absurd h0 e
theorem sf_less {l : List Ob} (h : sf l = 0) (j : Nat) : ∀ k, j < k → k < l.length → Op.bytesLess (l.getD j onil).1.toList (l.getD k onil).1.toList = true := by
  intro k
  induction k with
  | zero => intro h1; omega
  | succ k ih =>
    intro h1 h2
    have hs := sf_step h k h2
    by_cases e : j = k
    · rw [e]; exact hs
    · exact bl_trans _ _ _ (ih (by omega) (by omega)) hs
theorem sf_new {l : List Ob} (h : sf l = 0) (k : Nat) (hk : k < l.length) : ∀ o ∈ l.take k, o.1 ≠ (l.getD k onil).1 := by
  intro o ho e
  obtain ⟨j, hj, rfl⟩ := List.mem_iff_getElem.1 ho
  rw [List.length_take] at hj
  have := sf_less h j k (by omega) hk
  rw [List.getElem_take, show l[j] = l.getD j onil by rw [List.getD, List.getElem?_eq_getElem (by omega)]; rfl] at e
  rw [e, bl_irr] at this
  cases this

set_option maxRecDepth 20000 in
set_option maxHeartbeats 2000000 in
theorem shelfOfC (a : Option Addr) (c : Nat) (l : List Ob) (w : World) (h : OB w.heap.size w a l) (hf : sf l = 0) :
    Calls Tryz.prog 44 #[.slice a l.length c] w fun e w' => e = .returned (.pointer (some ⟨w.heap.size + 1, 0, none⟩)) ∧ Rf w' (w.heap.size + 1) [.map (some w.heap.size), .int .i64 (l.length : Int)] ∧ Sh w' w.heap.size l ∧ Below w.heap.size w w' ∧ w.heap.size + 1 < w'.heap.size := by
  have hmm := @run_makeMap Tryz.prog
  have hlen := (sf_zero hf).1
  obtain ⟨WA, hWA⟩ : ∃ W, w.alloc (.map #[] 0) = W := ⟨_, rfl⟩
  have bA : Below w.heap.size w WA := by rw [← hWA]; exact allocBelow _ _
  have zA : WA.heap.size = w.heap.size + 1 := by rw [← hWA]; simp
  have SA : Sh WA w.heap.size [] := by rw [← hWA]; exact Sh.new w
  obtain ⟨W0, hW0⟩ : ∃ W, WA.alloc (.cells #[.map (some w.heap.size), .int .i64 0] 144) = W := ⟨_, rfl⟩
  have b0 : Below WA.heap.size WA W0 := by rw [← hW0]; exact allocBelow _ _
  have z0 : W0.heap.size = w.heap.size + 1 + 1 := by rw [← hW0]; simp [zA]
  have R0 : Rf W0 (w.heap.size + 1) [.map (some w.heap.size), .int .i64 0] := by rw [← hW0, ← zA]; exact Rf.new _ _ _
  have S0 := SA.below b0
  have B0 : Below w.heap.size w W0 := bA.trans (b0.mono (by omega))
  clear SA b0 bA
  go_enter Tryz.func44, Tryz.ntmps44
  go_wp2
  go_loopw [5, 11] (fun _o i wr => ∃ k : Nat, k ≤ l.length ∧ i = .int .i64 k ∧ Rf wr (w.heap.size + 1) [.map (some w.heap.size), .int .i64 (k : Int)] ∧ Sh wr w.heap.size (l.take k) ∧ Below w.heap.size w wr ∧ w.heap.size + 1 < wr.heap.size) (fun _ i _ => l.length - (intOf i).toNat)
  case atStart => exact ⟨0, Nat.zero_le _, rfl, R0, S0, B0, by omega⟩
  case round =>
    obtain ⟨k, hk, rfl, hR, hS, hB, hz⟩ := hrel
    by_cases hlt : k < l.length
    · have q : (k : Int) < (l.length : Int) := by omega
      obtain ⟨g, off, e, hg, d0, d1, d2⟩ := h k hlt
      subst e
      have d0 := (hB.cell (p := ⟨g, off + k * 3, none⟩) hg).trans d0
      have d1 := (hB.cell (p := ⟨g, off + k * 3 + 1, none⟩) hg).trans d1
      have d2 := (hB.cell (p := ⟨g, off + k * 3 + 2, none⟩) hg).trans d2
      have h5 := sf_size hf k hlt
      have hn := sf_new hf k hlt
      have hT := ob_take l k hlt
      have hlk : (l.take k).length = k := by rw [List.length_take]; omega
      obtain ⟨C, hCe⟩ : ∃ C, l.getD k onil = C := ⟨_, rfl⟩
      obtain ⟨x0, x1, x2⟩ := C
      rw [hCe] at d0 d1 d2 h5 hn hT
      simp only [] at d0 d1 d2 h5 hn
      obtain ⟨W3, hW3⟩ : ∃ W, wr.alloc (.cells #[.string x0, .int .i64 x1, .string x2] 72) = W := ⟨_, rfl⟩
      have b3 : Below wr.heap.size wr W3 := by rw [← hW3]; exact allocBelow _ _
      have o3 : Rs W3 wr.heap.size [.string x0, .int .i64 x1, .string x2] := by rw [← hW3]; exact Rs.new _ _ _
      have m0 := o3 0 _ rfl
      have m1 := o3 1 _ rfl
      have m2 := o3 2 _ rfl
      have z3 := b3.size
      have R3 := hR.below hz b3
      have S3 := hS.below b3
      have B3 : Below w.heap.size w W3 := hB.trans (b3.mono (by omega))
      have hP := putNew (w.heap.size + 1) w.heap.size (l.take k) x0 x2 x1 W3 (by rw [hlk]; exact R3) (by omega) (by omega) S3 h5 hn (by omega)
      rw [hlk, ← hT] at hP
      clear hT hn h5 R3 S3 hR hS hB b3 o3 hCe
      go_wp2_with fail
      refine hP.mono ?_; rintro e w4 ⟨rfl, R4, S4, b4, z4, -⟩
      have B4 : Below w.heap.size w w4 := B3.trans b4
      have HR4 : Hid (Rf w4 _ _) := R4
      have HS4 : Hid (Sh w4 _ _) := S4
      have HB4 : Hid (Below _ w w4) := B4
      clear R4 S4 B4 B3 b4 hP
      go_wp2
      go_roundw
      case rel => exact ⟨k + 1, by omega, by first | rfl | go_num, HR4.out, HS4.out, HB4.out, by omega⟩
      case measure => first | (simp [intOf]; omega) | simp [intOf]
    · have q : ¬ (k : Int) < (l.length : Int) := by omega
      have e : k = l.length := by omega
      subst e
      rw [List.take_of_length_le (by omega)] at hS
      have HR4 : Hid (Rf wr _ _) := hR
      have HS4 : Hid (Sh wr _ _) := hS
      have HB4 : Hid (Below _ w wr) := hB
      clear hR hS hB
      go_wp2
      go_ret
      exact ⟨rfl, HR4.out, HS4.out, HB4.out, hz⟩
end Go.Proofs.YtmmccpdaklkciaaGreatDoor
/- The contracts of find and cloneObject. No statement is proved here. -/
namespace Go.Proofs.YtmmccpdaklkciaaGreatDoor
open Go.ChangeShapes Go.WideShapes Go.ChangeAt Go.RowKit

theorem hexN_is (n : Nat) (h : n < 16) : isHex (hexN n) = true := by
  have key : ∀ m : Fin 16, isHex (hexN m.val) = true := by decide +kernel
  exact key ⟨n, h⟩
theorem letN_is (k : Int) : isLet (letN k) = true := by
  unfold letN
  split
  · decide
  · split <;> decide
theorem idB_idN (k : Int) (s : ByteArray) : idB (idN k s).data.toList = true := by
  unfold idN
  simp only [hexs, idB, letN_is, Bool.true_and]
  simp [hexN_is _ (Nat.mod_lt _ (by decide : 16 > 0))]
theorem sf_id {l : List Ob} (h : sf l = 0) (k : Nat) (hk : k < l.length) : idB (l.getD k onil).1.data.toList = true := by
  have h0 := (sf_zero h).2 k hk
  unfold obF at h0
  split at h0
  · rename_i e
    split at h0
    · rename_i e2
      rw [← e2]
      unfold idK at e
      unfold idT
      split at e
      · rename_i e3
        rw [if_pos e3, if_pos e]
        exact idB_idN _ _
      · omega
    · omega
  · rename_i e; exact absurd h0 e
theorem fz_out {l : List Ob} {id : ByteArray} (h : fz l id = -1) : ∀ o ∈ l, o.1 ≠ id := by
  intro o ho e
  have : fnd l id < l.length := List.findIdx_lt_length_of_exists ⟨o, ho, by simp [e]⟩
  unfold fz at h
  rw [if_pos this] at h
  omega
theorem idB_size {id : ByteArray} (h : idB id.data.toList = true) : id.size = 5 := by
  by_cases e : id.data.toList.length = 5
  · simpa using e
  · rw [idB_len e] at h; cases h
theorem gt_noid {l : List Ob} {k : Int} {id : ByteArray} (hf : sf l = 0) (h : idB id.data.toList = false) : gt l k id = none := by
  rcases fz_cases l id with e | ⟨j, e, hj, e2⟩
  · exact gt_less e
  · have := sf_id hf j hj
    rw [e2, h] at this; cases this

set_option maxRecDepth 20000 in
set_option maxHeartbeats 1000000 in
theorem cloneObjectC (x0 x2 : ByteArray) (x1 : Int) (w : World) (h0 : x0.size ≤ 1048576) (h2 : x2.size ≤ 1048576) :
    Calls Tryz.prog 131 #[.agg #[.string x0, .int .i64 x1, .string x2]] w fun e w' => e = .returned (.agg #[.string x0, .int .i64 x1, .string x2]) ∧ Below w.heap.size w w' := by
  obtain ⟨WA, hWA⟩ : ∃ W, w.alloc (.cells #[.string x0, .int .i64 x1, .string x2] 72) = W := ⟨_, rfl⟩
  have bA : Below w.heap.size w WA := by rw [← hWA]; exact allocBelow _ _
  have zA : WA.heap.size = w.heap.size + 1 := by rw [← hWA]; simp
  have rA : Rf WA w.heap.size [.string x0, .int .i64 x1, .string x2] := by rw [← hWA]; exact Rf.new _ _ _
  obtain ⟨W0, hW0⟩ : ∃ W, WA.alloc (.cells #[.string ⟨#[]⟩, .int .i64 0, .string ⟨#[]⟩] 72) = W := ⟨_, rfl⟩
  have b0 : Below WA.heap.size WA W0 := by rw [← hW0]; exact allocBelow _ _
  have z0 : W0.heap.size = w.heap.size + 1 + 1 := by rw [← hW0]; simp [zA]
  have R0 : Rf W0 (w.heap.size + 1) [.string ⟨#[]⟩, .int .i64 0, .string ⟨#[]⟩] := by rw [← hW0, ← zA]; exact Rf.new _ _ _
  have r0 := rA.below (by omega) b0
  have B0 : Below w.heap.size w W0 := bA.trans (b0.mono (by omega))
  have hc0 := fun w => cloneS x0 w (by omega)
  have hc2 := fun w => cloneS x2 w (by omega)
  have c0 := r0.at_ 0 _ rfl
  have c1 := r0.at_ 1 _ rfl
  have c2 := r0.at_ 2 _ rfl
  clear rA bA b0
  go_enter Tryz.func131, Tryz.ntmps131
  go_wp2
  go_region_held (fun w' => w'.cell? ⟨w.heap.size, 0, none⟩ = some (.string x0) ∧ w'.cell? ⟨w.heap.size, 2, none⟩ = some (.string x2)) (first | with_reducible exact ⟨u0, u2⟩ | with_reducible exact ⟨v0, v2⟩ | with_reducible exact ⟨t0, t2⟩ | with_reducible exact ⟨s0, s2⟩ | exact ⟨c0, c2⟩)
    (first
      | (go_at_call 125; have gd := r1; clear gd; refine (hc2 _).mono ?_; rintro e w2 ⟨rfl, b2⟩; have r2 := Rf.below r1 (by omega) b2; have t0 := r2.at_ 0 _ rfl; have t1 := r2.at_ 1 _ rfl; have t2 := r2.at_ 2 _ rfl; have g0 := r2.fz 0; have g2 := r2.fz 2; have r3 := Rf.set r2 (o := 0) (by simp) (.string x0); have v0 := r3.at_ 0 _ rfl; have v2 := r3.at_ 2 _ rfl; have r4 := Rf.set r3 (o := 2) (by simp) (.string x2); have u0 := r4.at_ 0 _ rfl; have u1 := r4.at_ 1 _ rfl; have u2 := r4.at_ 2 _ rfl)
      | (go_at_call 125; refine (hc0 _).mono ?_; rintro e w1 ⟨rfl, b1⟩; have y1 : W0.heap.size ≤ w1.heap.size := b1.size; have r1 := Rf.below (Rf.drewM r0) (by show w.heap.size < W0.heap.size; omega) b1; have s0 := r1.at_ 0 _ rfl; have s1 := r1.at_ 1 _ rfl; have s2 := r1.at_ 2 _ rfl))
  obtain ⟨W5, hW5⟩ : ∃ W, (w2.setCell ⟨w.heap.size, 0, none⟩ (.string x0)).setCell ⟨w.heap.size, 2, none⟩ (.string x2) = W := ⟨_, rfl⟩
  have R1 := Rf.below (Rf.drewM R0) (by show w.heap.size + 1 < W0.heap.size; omega) b1
  have R2 := Rf.below R1 (by omega) b2
  have R4 := Rf.other (o := 2) (Rf.other (o := 0) R2 (show w.heap.size + 1 ≠ w.heap.size by omega) (.string x0)) (show w.heap.size + 1 ≠ w.heap.size by omega) (.string x2)
  have B1 : Below w.heap.size w w1 := B0.drew.trans (b1.mono (by show w.heap.size ≤ W0.heap.size; omega))
  have B2 : Below w.heap.size w w2 := B1.trans (b2.mono (by omega))
  have B4 := (B2.setCell (p := ⟨w.heap.size, 0, none⟩) (Nat.le_refl _) (.string x0)).setCell (p := ⟨w.heap.size, 2, none⟩) (Nat.le_refl _) (.string x2)
  rw [hW5] at u0 u1 u2 R4 B4 ⊢
  have HB := fun v0 v1 v2 => below3 B4 (show w.heap.size ≤ w.heap.size + 1 by omega) v0 v1 v2
  have d0 := R4.at_ 0 _ rfl
  have d1 := R4.at_ 1 _ rfl
  have d2 := R4.at_ 2 _ rfl
  have f0 := R4.fz 0
  have f1 := R4.fz 1
  have f2 := R4.fz 2
  have HB' : Hid (Below w.heap.size w (set3 W5 (w.heap.size + 1) (.string x0) (.int .i64 x1) (.string x2))) := HB _ _ _
  clear R1 R2 R4 B1 B2 B4 HB hW5 r1 r2 r3 r4 b1 b2 R0 r0 B0 hc0 hc2 s0 s1 s2 t0 t1 t2 v0 v2 c0 c1 c2 hW0 hWA
  go_wp2
  refine bodyPost_ret (v := .agg #[.string x0, .int .i64 x1, .string x2]) (by simp [results, Tryz.results131, go_sem, d0, d1, d2]) rfl ?_
  exact ⟨rfl, HB'.out⟩
end Go.Proofs.YtmmccpdaklkciaaGreatDoor
/- The contract of find. No statement is proved here. -/
namespace Go.Proofs.YtmmccpdaklkciaaGreatDoor
open Go.ChangeShapes Go.WideShapes Go.ChangeAt Go.RowKit

theorem ret_find {x0 x2 y0 y2 : ByteArray} {x1 y1 : Int} {b d : Bool} (h : ((x0, x1, x2) : Ob) = (y0, y1, y2)) (k : b = d) : Ending.returned (.tuple #[.agg #[.string x0, .int .i64 x1, .string x2], .bool b]) = .returned (.tuple #[.agg #[.string y0, .int .i64 y1, .string y2], .bool d]) := by
  simp only [Prod.mk.injEq] at h
  rw [h.1, h.2.1, h.2.2, k]

set_option maxRecDepth 20000 in
set_option maxHeartbeats 2000000 in
theorem findNo (p : Nat) (kd : Int) (id : ByteArray) (w : World) (hid : idB id.data.toList = false) :
    Calls Tryz.prog 92 #[.pointer (some ⟨p, 0, none⟩), .int .i64 kd, .string id] w fun e w' => e = .returned (.tuple #[.agg #[.string ⟨#[]⟩, .int .i64 0, .string ⟨#[]⟩], .bool false]) ∧ Below w.heap.size w w' := by
  have hI := fun w => implIsId id w
  rw [hid] at hI
  obtain ⟨W0, hW0⟩ : ∃ W, w.alloc (.cells #[.string ⟨#[]⟩, .int .i64 0, .string ⟨#[]⟩] 72) = W := ⟨_, rfl⟩
  have b0 : Below w.heap.size w W0 := by rw [← hW0]; exact allocBelow _ _
  have R0 : Rf W0 w.heap.size [.string ⟨#[]⟩, .int .i64 0, .string ⟨#[]⟩] := by rw [← hW0]; exact Rf.new _ _ _
  have d0 := R0.at_ 0 _ rfl
  have d1 := R0.at_ 1 _ rfl
  have d2 := R0.at_ 2 _ rfl
  have f0 := R0.fz 0
  have f1 := R0.fz 1
  have f2 := R0.fz 2
  have HB : Hid (Below w.heap.size w (set3 W0 w.heap.size (.string ⟨#[]⟩) (.int .i64 0) (.string ⟨#[]⟩))) := below3 b0 (Nat.le_refl _) _ _ _
  clear R0 b0
  go_enter Tryz.func92, Tryz.ntmps92
  go_wp2_with fail
  refine (hI _).mono ?_; rintro e w2 ⟨rfl, rfl⟩
  go_wp2
  refine bodyPost_ret (v := .tuple #[.agg #[.string ⟨#[]⟩, .int .i64 0, .string ⟨#[]⟩], .bool false]) (by simp [results, Tryz.results92, go_sem, d0, d1, d2]) rfl ?_
  exact ⟨rfl, HB.out⟩

theorem threeKeep {u : World} {p b o : Nat} {v0 v1 v2 x : Value} (hc : u.cell? ⟨b, o, none⟩ = some x) (h : b < p) : (((u.setCell ⟨p, 0, none⟩ v0).setCell ⟨p, 1, none⟩ v1).setCell ⟨p, 2, none⟩ v2).cell? ⟨b, o, none⟩ = some x := by
  rw [World.cell?_setCell_other _ _ _ _ (by intro c; simp only [Addr.mk.injEq] at c; omega), World.cell?_setCell_other _ _ _ _ (by intro c; simp only [Addr.mk.injEq] at c; omega), World.cell?_setCell_other _ _ _ _ (by intro c; simp only [Addr.mk.injEq] at c; omega)]
  exact hc
/-- What find's region leaves. -/
def FindMid (w : World) (ok : Bool) (v0 v2 : ByteArray) (v1 : Int) (s v : Value) (wx : World) : Prop := ∃ q : Nat, s = .pointer (some ⟨q, 0, none⟩) ∧ v = .bool ok ∧ w.heap.size < q ∧ q < wx.heap.size ∧ Rf wx q [.string v0, .int .i64 v1, .string v2] ∧ Rf wx w.heap.size [.string ⟨#[]⟩, .int .i64 0, .string ⟨#[]⟩] ∧ Below w.heap.size w wx
theorem FindMid.new {w w2 w3 : World} {ok : Bool} {v0 v2 : ByteArray} {v1 : Int} {t : TypeId} (z : w2.heap.size = w.heap.size + 1) (B : Below w.heap.size w w2) (b4 : Below w2.heap.size w2 w3) (R : Rf w2 w.heap.size [.string ⟨#[]⟩, .int .i64 0, .string ⟨#[]⟩]) :
    FindMid w ok v0 v2 v1 (.pointer (some ⟨w3.heap.size, 0, none⟩)) (.bool ok) (w3.alloc (.cells #[.string v0, .int .i64 v1, .string v2] t)) := by
  have := b4.size
  exact ⟨_, rfl, rfl, by omega, by simp, Rf.new _ _ _, (R.below (by omega) b4).below (by omega) (allocBelow _ _), (B.trans (b4.mono (by omega))).trans ((allocBelow _ _).mono (by omega))⟩
theorem FindMid.sets {w w2 w3 : World} {ok : Bool} {v0 v2 : ByteArray} {v1 : Int} (z : w2.heap.size = w.heap.size + 1) (B : Below w.heap.size w w2) (b4 : Below w2.heap.size w2 w3) (hz : w2.heap.size < w3.heap.size) (R : Rf w2 w.heap.size [.string ⟨#[]⟩, .int .i64 0, .string ⟨#[]⟩]) (y : Rf w3 w2.heap.size [.string ⟨#[]⟩, .int .i64 0, .string ⟨#[]⟩]) :
    FindMid w ok v0 v2 v1 (.pointer (some ⟨w2.heap.size, 0, none⟩)) (.bool ok) (((w3.setCell ⟨w2.heap.size, 0, none⟩ (.string v0)).setCell ⟨w2.heap.size, 1, none⟩ (.int .i64 v1)).setCell ⟨w2.heap.size, 2, none⟩ (.string v2)) := by
  refine ⟨_, rfl, rfl, by omega, by simpa using hz, ?_, (R.below (by omega) b4).three (k := w2.heap.size) (by omega) _ _ _, below3 (B.trans (b4.mono (by omega))) (by omega) _ _ _⟩
  exact ((y.set (o := 0) (by simp) (.string v0)).set (o := 1) (by simp) (.int .i64 v1)).set (o := 2) (by simp) (.string v2)
theorem newObj {w2 w3 : World} {t : TypeId} (b : Below ((w2.alloc (.cells #[.string ⟨#[]⟩, .int .i64 0, .string ⟨#[]⟩] t)).drew).heap.size ((w2.alloc (.cells #[.string ⟨#[]⟩, .int .i64 0, .string ⟨#[]⟩] t)).drew) w3) :
    Rf w3 w2.heap.size [.string ⟨#[]⟩, .int .i64 0, .string ⟨#[]⟩] ∧ Below w2.heap.size w2 w3 ∧ w2.heap.size < w3.heap.size := by
  have e : ((w2.alloc (.cells #[.string ⟨#[]⟩, .int .i64 0, .string ⟨#[]⟩] t)).drew).heap.size = w2.heap.size + 1 := by show (w2.alloc _).heap.size = _; simp
  have h := b.size
  exact ⟨(Rf.new w2 #[.string ⟨#[]⟩, .int .i64 0, .string ⟨#[]⟩] t).drewM.below (by rw [e]; omega) b, (below_drew (allocBelow _ _)).trans (b.mono (by omega)), by omega⟩

set_option maxRecDepth 20000 in
set_option maxHeartbeats 2000000 in
theorem findId (p b : Nat) (l : List Ob) (x v0 v2 : _) (v1 : Int) (ok B : Bool) (r0 r2 : ByteArray) (r1 : Int) (kd : Int) (id : ByteArray) (w : World) (hid : idB id.data.toList = true) (hR : Rf w p [.map (some b), x]) (hp : p < w.heap.size) (hS : Sh w b l)
    (hlk : ∀ w, Sh w b l → (Instr.lookup 142 (.map (some b)) (kv id) true).run Tryz.prog w = .ok (.tuple #[.agg #[.string v0, .int .i64 v1, .string v2], .bool ok]) w)
    (hyes : ok = true → v1 = kd → B = true ∧ r0 = v0 ∧ r1 = v1 ∧ r2 = v2) (hno : ok = false ∨ ¬ v1 = kd → B = false ∧ r0 = ⟨#[]⟩ ∧ r1 = 0 ∧ r2 = ⟨#[]⟩) :
    Calls Tryz.prog 92 #[.pointer (some ⟨p, 0, none⟩), .int .i64 kd, .string id] w fun e w' => e = .returned (.tuple #[.agg #[.string r0, .int .i64 r1, .string r2], .bool B]) ∧ Below w.heap.size w w' := by
  have hI := fun w => implIsId id w
  rw [hid] at hI
  obtain ⟨n0, n1, n2, n3, n4, hkv⟩ := kv_ints id
  have hKO := fun w => keyOfC id w (idB_size hid)
  rw [hkv] at hKO hlk
  obtain ⟨W0, hW0⟩ : ∃ W, w.alloc (.cells #[.string ⟨#[]⟩, .int .i64 0, .string ⟨#[]⟩] 72) = W := ⟨_, rfl⟩
  have b0 : Below w.heap.size w W0 := by rw [← hW0]; exact allocBelow _ _
  have z0 : W0.heap.size = w.heap.size + 1 := by rw [← hW0]; simp
  have R0 : Rf W0 w.heap.size [.string ⟨#[]⟩, .int .i64 0, .string ⟨#[]⟩] := by rw [← hW0]; exact Rf.new _ _ _
  have S0 := hS.below b0
  have p0 := hR.below hp b0
  have c0 := p0.at_ 0 _ rfl
  have HZ0 : Hid (W0.heap.size = w.heap.size + 1) := z0
  have hp2 : p < W0.heap.size := by omega
  clear hR hS z0
  go_enter Tryz.func92, Tryz.ntmps92
  go_wp2_with fail
  refine (hI _).mono ?_; rintro e w2 ⟨rfl, rfl⟩
  clear hI hW0
  go_wp2
  go_cut [8, 9] from 14 to 23 (fun s v wx => FindMid w ok v0 v2 v1 s v wx)
  case first =>
    go_region_held (fun w' => w'.cell? ⟨p, 0, none⟩ = some (.map (some b))) (first | with_reducible exact t0 | exact c0 | exact zcell (allocBelow _ _) c0 | exact zcell (allocBelow _ _) t0 | (have q3 := b4.size; with_reducible refine threeKeep t0 ?_ <;> omega) | (have q3 := b4.size; with_reducible refine threeKeep (zcell (allocBelow _ _) t0) ?_ <;> omega) | (go_keep; done))
      (first | (go_at_call 145; refine (hKO _).mono ?_; rintro e w3 ⟨rfl, b3⟩; (first | (obtain ⟨y3, b4, z4⟩ := newObj b3; have d0 := y3.at_ 0 _ rfl; have d1 := y3.at_ 1 _ rfl; have d2 := y3.at_ 2 _ rfl; have f0 := y3.fz 0; have f1 := y3.fz 1; have f2 := y3.fz 2) | (have b4 : Below w2.heap.size w2 w3 := (below_drew (Below.refl _ _)).trans b3)); have t0 := zcell b4 c0; have S3 := Sh.below S0 b4; have L0 := hlk _ S3; have L1 := fun o => hlk _ (Sh.below S3 (allocBelow w3 o))))
    all_goals
      clear L0 L1 S3 t0 c0 hlk hKO hyes hno S0 p0
      go_wp2_with fail
      go_meet
      first | exact FindMid.new HZ0.out b0 b4 R0 | exact FindMid.sets HZ0.out b0 b4 z4 R0 y3
  case rest =>
    obtain ⟨q, rfl, rfl, hq1, hq2, hQ, hR, hB⟩ := hcut
    have d0 := hR.at_ 0 _ rfl
    have d1 := hR.at_ 1 _ rfl
    have d2 := hR.at_ 2 _ rfl
    have f0 := hR.fz 0
    have f1 := hR.fz 1
    have f2 := hR.fz 2
    have k0 := hQ.at_ 0 _ rfl
    have k1 := hQ.at_ 1 _ rfl
    have k2 := hQ.at_ 2 _ rfl
    have HB : ∀ a0 a1 a2, Hid (Below w.heap.size w (((wc.setCell ⟨w.heap.size, 0, none⟩ a0).setCell ⟨w.heap.size, 1, none⟩ a1).setCell ⟨w.heap.size, 2, none⟩ a2)) := fun a0 a1 a2 => below3 hB (Nat.le_refl _) _ _ _
    clear hR hQ hB hlk hKO S0 p0 R0 b0 c0
    cases ok with
    | false =>
      have hx := hno (.inl rfl)
      clear hno hyes
      obtain ⟨rfl, rfl, rfl, rfl⟩ := hx
      go_wp2
      refine bodyPost_ret (v := .tuple #[.agg #[.string ⟨#[]⟩, .int .i64 0, .string ⟨#[]⟩], .bool false]) (by simp [results, Tryz.results92, go_sem, d0, d1, d2]) rfl ?_
      exact ⟨rfl, (HB _ _ _).out⟩
    | true =>
      by_cases hk : v1 = kd
      · have hx := hyes rfl hk
        clear hno hyes
        obtain ⟨rfl, rfl, rfl, rfl⟩ := hx
        have qk : (r1 != kd) = false := by simp [hk]
        clear hk
        go_wp2
        refine bodyPost_ret (v := .tuple #[.agg #[.string r0, .int .i64 r1, .string r2], .bool true]) (by simp [results, Tryz.results92, go_sem, d0, d1, d2]) rfl ?_
        exact ⟨rfl, (HB _ _ _).out⟩
      · have hx := hno (.inr hk)
        clear hno hyes
        obtain ⟨rfl, rfl, rfl, rfl⟩ := hx
        have qk : (v1 == kd) = false := by simp [hk]
        have qk2 : (v1 != kd) = true := by simp [hk]
        clear hk
        go_wp2
        refine bodyPost_ret (v := .tuple #[.agg #[.string ⟨#[]⟩, .int .i64 0, .string ⟨#[]⟩], .bool false]) (by simp [results, Tryz.results92, go_sem, d0, d1, d2]) rfl ?_
        exact ⟨rfl, (HB _ _ _).out⟩
end Go.Proofs.YtmmccpdaklkciaaGreatDoor
/- The contract of the program's GetObject. No statement is proved here. -/
namespace Go.Proofs.YtmmccpdaklkciaaGreatDoor
open Go.ChangeShapes Go.WideShapes Go.ChangeAt Go.RowKit

def fo (l : List Ob) (kd : Int) (id : ByteArray) : Ob := match gt l kd id with
  | some D => (id, kd, D)
  | none => onil
theorem findC (p b : Nat) (l : List Ob) (x : Value) (kd : Int) (id : ByteArray) (w : World) (hf : sf l = 0) (hR : Rf w p [.map (some b), x]) (hp : p < w.heap.size) (hS : Sh w b l) :
    Calls Tryz.prog 92 #[.pointer (some ⟨p, 0, none⟩), .int .i64 kd, .string id] w fun e w' => e = .returned (.tuple #[.agg #[.string (fo l kd id).1, .int .i64 (fo l kd id).2.1, .string (fo l kd id).2.2], .bool (gt l kd id).isSome]) ∧ Below w.heap.size w w' := by
  cases hid : idB id.data.toList with
  | false =>
    have hg := gt_noid (k := kd) hf hid
    unfold fo
    rw [hg]
    exact findNo p kd id w hid
  | true =>
    rcases fz_cases l id with e | ⟨k, e, hk, e2⟩
    · have hg := gt_less (k := kd) e
      unfold fo
      rw [hg]
      exact findId p b l x ⟨#[]⟩ ⟨#[]⟩ 0 false false ⟨#[]⟩ ⟨#[]⟩ 0 kd id w hid hR hp hS (fun w h => h.miss (idB_size hid) (fz_out e)) (fun h => by cases h) (fun _ => ⟨rfl, rfl, rfl, rfl⟩)
    · obtain ⟨o, ho⟩ : ∃ o, l.getD k onil = o := ⟨_, rfl⟩
      have hm := ob_mem l k hk
      have hy := fun h => gt_yes (l := l) (k := kd) e h
      have hn := fun h => gt_no (l := l) (k := kd) e h
      rw [ho] at e2 hm hy hn
      have hlk : ∀ w, Sh w b l → (Instr.lookup 142 (.map (some b)) (kv id) true).run Tryz.prog w = .ok (.tuple #[.agg #[.string o.1, .int .i64 o.2.1, .string o.2.2], .bool true]) w := fun w h => by
        have := h.hit hm
        rw [e2] at this
        rw [this]; unfold obV; rw [e2]
      by_cases hkd : o.2.1 = kd
      · unfold fo
        rw [hy hkd]
        exact findId p b l x o.1 o.2.2 o.2.1 true true id o.2.2 kd kd id w hid hR hp hS hlk (fun _ _ => ⟨rfl, e2.symm, hkd.symm, rfl⟩) (fun h => by rcases h with h | h; cases h; exact absurd hkd h)
      · unfold fo
        rw [hn hkd]
        exact findId p b l x o.1 o.2.2 o.2.1 true false ⟨#[]⟩ ⟨#[]⟩ 0 kd id w hid hR hp hS hlk (fun _ h => absurd h hkd) (fun _ => ⟨rfl, rfl, rfl, rfl⟩)
end Go.Proofs.YtmmccpdaklkciaaGreatDoor
/- The contracts of HasBlobs, of the specification and of the program. No statement is proved here. -/
namespace Go.Proofs.YtmmccpdaklkciaaGreatDoor
open Go.ChangeShapes Go.WideShapes Go.ChangeAt Go.RowKit

theorem ret_boolH {c d : Bool} (h : c = d) : Ending.returned (.bool c) = .returned (.bool d) := by rw [h]
theorem zcH {w w' : World} {g o : Nat} {v : Value} (b : Below w.heap.size w w') (h : w.cell? ⟨g, o, none⟩ = some v) : w'.cell? ⟨g, o, none⟩ = some v :=
  (Fr.ofBelow (lo := 0) (hi := 0) b).cell h (.inr (Nat.zero_le _))
/-- Whether the store has the blob of each file. -/
def hbF (l : List Ob) : List Fl.Ob → Bool
  | [] => true
  | f :: t => if (gt l 1 f.2.2).isSome = true then hbF l t else false
theorem hbF_no {l : List Ob} {fs : List Fl.Ob} {k : Nat} (hk : k < fs.length) (h : (gt l 1 (fs.getD k Fl.onil).2.2).isSome = false) : hbF l (fs.drop k) = false := by
  rw [Fl.ob_drop fs k hk, hbF, if_neg (by rw [h]; decide)]
theorem hbF_go {l : List Ob} {fs : List Fl.Ob} {k : Nat} (hk : k < fs.length) (h : (gt l 1 (fs.getD k Fl.onil).2.2).isSome = true) : hbF l (fs.drop k) = hbF l (fs.drop (k + 1)) := by
  rw [Fl.ob_drop fs k hk, hbF, if_pos h]
theorem hbF_end {l : List Ob} {fs : List Fl.Ob} {k : Nat} (hk : fs.length ≤ k) : hbF l (fs.drop k) = true := by
  rw [List.drop_of_length_le hk]; rfl
set_option maxRecDepth 20000 in
set_option maxHeartbeats 2000000 in
theorem l11Blobs (a : Option Addr) (c : Nat) (l : List Ob) (fa : Option Addr) (fc : Nat) (fs : List Fl.Ob) (w : World) (h : OB w.heap.size w a l) (hf : Fl.OB w.heap.size w fa fs) (hn : l.length ≤ 1048576) (hm : fs.length ≤ 1048576) :
    Calls Tryz.prog 37 #[.slice a l.length c, .slice fa fs.length fc] w fun e w' => e = .returned (.bool (hbF l fs)) ∧ w' = w := by
  have H0 : Hid (hbF l (fs.drop 0) = hbF l fs) := rfl
  obtain ⟨R, hR⟩ : ∃ R, hbF l fs = R := ⟨_, rfl⟩
  rw [hR] at H0 ⊢
  clear hR
  have hG := fun id => l5Get a c l 1 id w h hn
  go_enter Tryz.func37, Tryz.ntmps37
  go_wp2
  go_loopw [5, 6, 7] (fun i _ _ wr => ∃ k : Nat, k ≤ fs.length ∧ i = .int .i64 k ∧ wr = w ∧ Hid (hbF l (fs.drop k) = R)) (fun i _ _ _ => fs.length - (intOf i).toNat)
  case atStart => exact ⟨0, Nat.zero_le _, rfl, rfl, H0⟩
  case round =>
    obtain ⟨k, hk, rfl, rfl, h0⟩ := hrel
    clear H0
    by_cases hlt : k < fs.length
    · have q : (k : Int) < (fs.length : Int) := by omega
      obtain ⟨g, off, e, hg, c0, c1, c2⟩ := hf k hlt
      subst e
      have hno := hbF_no (l := l) hlt
      have hgo := hbF_go (l := l) hlt
      obtain ⟨C, hC⟩ : ∃ C, fs.getD k Fl.onil = C := ⟨_, rfl⟩
      obtain ⟨x, y, z⟩ := C
      rw [hC] at c0 c1 c2 hno hgo
      simp only [] at c0 c1 c2 hno hgo
      have hGz := hG z
      clear hC c0 c1 hG
      generalize gt l 1 z = G at hGz hno hgo
      cases hD : G.isSome with
      | false =>
        have HE : Hid (false = R) := (hno hD).symm.trans h0.out
        rw [hD] at hGz
        clear hno hgo h0 hD
        go_wp2_with fail
        refine hGz.mono ?_; rintro e wr ⟨rfl, rfl⟩
        clear hGz
        go_wp2
        go_ret
        exact ⟨ret_boolH HE.out, rfl⟩
      | true =>
        have HN : Hid (hbF l (fs.drop (k + 1)) = R) := (hgo hD).symm.trans h0.out
        rw [hD] at hGz
        clear hno hgo h0 hD
        go_wp2_with fail
        refine hGz.mono ?_; rintro e wr ⟨rfl, rfl⟩
        clear hGz
        go_wp2
        go_roundw
        case rel => exact ⟨k + 1, by omega, by go_num, by trivial, HN⟩
        case measure => first | (simp [intOf]; omega) | simp [intOf]
    · have q : ¬ (k : Int) < (fs.length : Int) := by omega
      have HE : Hid (true = R) := (hbF_end (by omega)).symm.trans h0.out
      clear h0
      go_wp2
      go_ret
      exact ⟨ret_boolH HE.out, rfl⟩
def hasB (l : List Ob) (fs : List Fl.Ob) : Bool := if sf l = 0 then hbF l fs else false
set_option maxRecDepth 20000 in
set_option maxHeartbeats 4000000 in
theorem hasBlobsC (p b : Nat) (l : List Ob) (x : Value) (fa : Option Addr) (fc : Nat) (fs : List Fl.Ob) (w : World) (hz : sf l = 0) (hR : Rf w p [.map (some b), x]) (hp : p < w.heap.size) (hS : Sh w b l) (hf : Fl.OB w.heap.size w fa fs) (hm : fs.length ≤ 1048576) :
    Calls Tryz.prog 45 #[.pointer (some ⟨p, 0, none⟩), .slice fa fs.length fc] w fun e w' => e = .returned (.bool (hbF l fs)) ∧ Below w.heap.size w w' := by
  have H0 : Hid (hbF l (fs.drop 0) = hbF l fs) := rfl
  obtain ⟨R, hRe⟩ : ∃ R, hbF l fs = R := ⟨_, rfl⟩
  rw [hRe] at H0 ⊢
  clear hRe
  have hG : ∀ id V, Below w.heap.size w V → Calls Tryz.prog 92 #[.pointer (some ⟨p, 0, none⟩), .int .i64 1, .string id] V fun e w' => e = .returned (.tuple #[.agg #[.string (fo l 1 id).1, .int .i64 (fo l 1 id).2.1, .string (fo l 1 id).2.2], .bool (gt l 1 id).isSome]) ∧ Below V.heap.size V w' := fun id V bV =>
    findC p b l x 1 id V hz (hR.below hp bV) (Nat.lt_of_lt_of_le hp bV.size) (hS.below bV)
  go_enter Tryz.func45, Tryz.ntmps45
  go_wp2
  go_loopw [6, 7, 8, 11] (fun _ _ _ i wr => ∃ k : Nat, k ≤ fs.length ∧ i = .int .i64 k ∧ Below w.heap.size w wr ∧ Hid (hbF l (fs.drop k) = R)) (fun _ _ _ i _ => fs.length - (intOf i).toNat)
  case atStart => exact ⟨0, Nat.zero_le _, rfl, Below.refl _ _, H0⟩
  case round =>
    obtain ⟨k, hk, rfl, hbel, h0⟩ := hrel
    clear H0
    have hsz := hbel.size
    by_cases hlt : k < fs.length
    · have q : (k : Int) < (fs.length : Int) := by omega
      obtain ⟨g, off, e, hg, c0, c1, c2⟩ := hf.below hbel k hlt
      subst e
      have hno := hbF_no (l := l) hlt
      have hgo := hbF_go (l := l) hlt
      obtain ⟨C, hC⟩ : ∃ C, fs.getD k Fl.onil = C := ⟨_, rfl⟩
      obtain ⟨x0, x1, z⟩ := C
      rw [hC] at c0 c1 c2 hno hgo
      simp only [] at c0 c1 c2 hno hgo
      clear hC
      obtain ⟨V, hV⟩ : ∃ V, wr.alloc (.cells #[.string x0, .int .i64 x1, .string z] 34) = V := ⟨_, rfl⟩
      have bV : Below wr.heap.size wr V := by rw [← hV]; exact allocBelow _ _
      have rV : Rs V wr.heap.size [.string x0, .int .i64 x1, .string z] := by rw [← hV]; exact Rs.new _ _ _
      have e2 := rV 2 _ rfl
      have sV := bV.size
      have BV : Below w.heap.size w V := below_step hbel hsz bV
      have hGz : ∀ X, Below V.heap.size V X → Calls Tryz.prog 92 #[.pointer (some ⟨p, 0, none⟩), .int .i64 1, .string z] X fun e w' => e = .returned (.tuple #[.agg #[.string (fo l 1 z).1, .int .i64 (fo l 1 z).2.1, .string (fo l 1 z).2.2], .bool (gt l 1 z).isSome]) ∧ Below X.heap.size X w' := fun X bX =>
        hG z X (below_step BV (by omega) bX)
      obtain ⟨D, hD⟩ : ∃ D, (gt l 1 z).isSome = D := ⟨_, rfl⟩
      rw [hD] at hGz hno hgo
      generalize fo l 1 z = O at hGz
      obtain ⟨O0, O1, O2⟩ := O
      simp only [] at hGz
      clear hD hG rV hR hS hbel bV hp
      go_wp2_with fail
      refine (hGz _ (Below.refl _ _)).mono ?_; rintro e W' ⟨rfl, bW⟩
      obtain ⟨U, hU⟩ : ∃ U, W'.alloc (.cells #[.string O0, .int .i64 O1, .string O2] 72) = U := ⟨_, rfl⟩
      have bU : Below W'.heap.size W' U := by rw [← hU]; exact allocBelow _ _
      have HB := below_step (below_step BV (by omega) bW) (by have := bW.size; omega) bU
      clear hGz bW BV e2 c0 c1 c2 bU
      cases D with
      | false =>
        have HE : Hid (false = R) := (hno rfl).symm.trans h0.out
        clear hno hgo h0
        go_wp2
        go_ret
        exact ⟨ret_boolH HE.out, HB⟩
      | true =>
        have HN : Hid (hbF l (fs.drop (k + 1)) = R) := (hgo rfl).symm.trans h0.out
        clear hno hgo h0
        go_wp2
        go_roundw
        case rel => exact ⟨k + 1, by omega, by go_num, HB, HN⟩
        case measure => first | (simp [intOf]; omega) | simp [intOf]
    · have q : ¬ (k : Int) < (fs.length : Int) := by omega
      have HE : Hid (true = R) := (hbF_end (by omega)).symm.trans h0.out
      clear h0
      go_wp2
      go_ret
      exact ⟨ret_boolH HE.out, hbel⟩
end Go.Proofs.YtmmccpdaklkciaaGreatDoor
