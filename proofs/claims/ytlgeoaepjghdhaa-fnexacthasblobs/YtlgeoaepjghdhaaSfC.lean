/- The contracts of StoreFault (the program's and the specification's). No statement is proved here. -/
import Derived.Test.YtlgeoaepjghdhaaRows
import Derived.Test.YtlgeoaepjghdhaaLem
import Derived.Test.YtlgeoaepjghdhaaStrs
import Derived.Test.YtlgeoaepjghdhaaLFLem
import Derived.Test.YtlgeoaepjghdhaaSplLem
import Derived.Test.YtlgeoaepjghdhaaDTab
import Derived.Test.YtlgeoaepjghdhaaOwn
import Derived.Test.YtlgeoaepjghdhaaFr
import Derived.Test.YtlgeoaepjghdhaaIn
import Derived.Test.YtlgeoaepjghdhaaIdM
import Derived.Test.YtlgeoaepjghdhaaObL
import Derived.WalkKit
import Derived.ProofKit
import Derived.Below
import Derived.WalkSpells
import Derived.Deep.QuietTactic
import Derived.BigQuiet
import Derived.Deep.RegionWith
import Derived.Deep.RegionHeld
import Derived.Laws.Cover1
import Derived.Deep.CutRange
namespace Go.Proofs.Ytlgeoaepjghdhaa
open Go.ChangeShapes Go.WideShapes Go.ChangeAt Go.RowKit

/-- The fault of the object at a place. -/
def leS (a b : ByteArray) : Bool := Op.bytesLess a.toList b.toList || a.toList == b.toList
def obF (l : List Ob) (k : Nat) : Int :=
  if idK (l.getD k onil).2.1 (l.getD k onil).2.2 = 0 then
    (if idT (l.getD k onil).2.1 (l.getD k onil).2.2 = (l.getD k onil).1 then (if 0 < k ∧ leS (l.getD k onil).1 (l.getD (k - 1) onil).1 = true then 1 else 0) else 1)
  else idK (l.getD k onil).2.1 (l.getD k onil).2.2
/-- The fault of a store. -/
def sf (l : List Ob) : Int := if 200 < l.length then 2 else (((List.range l.length).map (obF l)).find? (fun x => decide (x ≠ 0))).getD 0
theorem sf_many {l : List Ob} (h : 200 < l.length) : sf l = 2 := if_pos h
theorem sf_bad {l : List Ob} {k : Nat} (h : ¬ 200 < l.length) (hk : k < l.length) (h0 : ∀ j, j < k → obF l j = 0) (hb : ¬ obF l k = 0) : sf l = obF l k := by
  unfold sf
  rw [if_neg h]
  have : ((List.range l.length).map (obF l)).find? (fun x => decide (x ≠ 0)) = some (obF l k) := by
    rw [List.find?_eq_some_iff_getElem]
    refine ⟨by simp [hb], k, by simp [hk], by simp, fun j hj => ?_⟩
    simp [h0 j hj]
  rw [this]; rfl
theorem sf_ok {l : List Ob} (h : ¬ 200 < l.length) (h0 : ∀ j, j < l.length → obF l j = 0) : sf l = 0 := by
  unfold sf
  rw [if_neg h]
  have : ((List.range l.length).map (obF l)).find? (fun x => decide (x ≠ 0)) = none := by
    rw [List.find?_eq_none]
    intro x hx
    obtain ⟨j, hj, rfl⟩ := List.mem_map.1 hx
    simp [h0 j (List.mem_range.1 hj)]
  rw [this]; rfl
/-- A store without a fault. -/
theorem sf_zero {l : List Ob} (h : sf l = 0) : ¬ 200 < l.length ∧ ∀ j, j < l.length → obF l j = 0 := by
  have h1 : ¬ 200 < l.length := fun h' => by rw [sf_many h'] at h; omega
  refine ⟨h1, ?_⟩
  have key : ∀ n j, j < n → j < l.length → obF l j = 0 := by
    intro n
    induction n with
    | zero => intro j hj; omega
    | succ n ih =>
      intro j hj hl
      by_cases e : j < n
      · exact ih j e hl
      · by_cases hb : obF l j = 0
        · exact hb
        · rw [sf_bad h1 hl (fun i hi => ih i (by omega) (by omega)) hb] at h
          exact h
  exact fun j hj => key (j + 1) j (by omega) hj

/-- A variable that holds an answer of a code and a text. -/
def RV (W : World) (K : Int) (T : ByteArray) (s : Value) (wx : World) : Prop := ∃ p : Nat, s = .pointer (some ⟨p, 0, none⟩) ∧ Res2 wx p (.int .i64 K) (.string T) ∧ Below W.heap.size W wx ∧ W.heap.size ≤ p ∧ p < wx.heap.size
theorem zcell {w w' : World} {b o : Nat} {v : Value} (h : Below w.heap.size w w') (hc : w.cell? ⟨b, o, none⟩ = some v) : w'.cell? ⟨b, o, none⟩ = some v := (Fr.ofBelow (lo := 0) (hi := 0) h).cell hc (.inr (Nat.zero_le _))
theorem twoKeep {u : World} {p b o : Nat} {v0 v1 x : Value} (hc : u.cell? ⟨b, o, none⟩ = some x) (h : b < p) : ((u.setCell ⟨p, 0, none⟩ v0).setCell ⟨p, 1, none⟩ v1).cell? ⟨b, o, none⟩ = some x := by
  rw [World.cell?_setCell_other _ _ _ _ (by intro c; simp only [Addr.mk.injEq] at c; omega), World.cell?_setCell_other _ _ _ _ (by intro c; simp only [Addr.mk.injEq] at c; omega)]
  exact hc
theorem beqS (s : ByteArray) : (s.toList == s.toList) = true := beq_bytes_true rfl
theorem newRes {w w1 : World} {u v : Value} {t : TypeId} (b : Below ((w.alloc (.cells #[u, v] t)).drew).heap.size ((w.alloc (.cells #[u, v] t)).drew) w1) : w1.cell? ⟨w.heap.size, 0, none⟩ = some u ∧ w1.cell? ⟨w.heap.size, 1, none⟩ = some v ∧ w1.frozen? ⟨w.heap.size, 0, none⟩ = false ∧ w1.frozen? ⟨w.heap.size, 1, none⟩ = false := by
  have h : Res2 ((w.alloc (.cells #[u, v] t)).drew) w.heap.size u v := by
    have := Res2.new w u v t
    exact ⟨this.c0, this.c1, this.f0, this.f1⟩
  have := h.below (by show w.heap.size < (w.alloc (.cells #[u, v] t)).heap.size; simp) b
  exact ⟨this.c0, this.c1, this.f0, this.f1⟩
theorem belNew {w w1 : World} {u v : Value} {t : TypeId} (b : Below ((w.alloc (.cells #[u, v] t)).drew).heap.size ((w.alloc (.cells #[u, v] t)).drew) w1) : Below w.heap.size w w1 ∧ w.heap.size < w1.heap.size :=
  ⟨(below_drew (allocBelow w _)).trans (b.mono (by show w.heap.size ≤ (w.alloc (.cells #[u, v] t)).heap.size; simp)), Nat.lt_of_lt_of_le (by show w.heap.size < (w.alloc (.cells #[u, v] t)).heap.size; simp) b.size⟩
theorem RV.new {W w2 : World} {K : Int} {T : ByteArray} {t : TypeId} (b : Below W.heap.size W w2) : RV W K T (.pointer (some ⟨w2.heap.size, 0, none⟩)) (w2.alloc (.cells #[.int .i64 K, .string T] t)) :=
  ⟨w2.heap.size, rfl, Res2.new _ _ _ _, b.alloc b.size _, b.size, by simp⟩
theorem RV.sets {W w2 : World} {K : Int} {T : ByteArray} {u v : Value} (b : Below W.heap.size W w2) (hp : W.heap.size < w2.heap.size) (c0 : w2.cell? ⟨W.heap.size, 0, none⟩ = some u) (c1 : w2.cell? ⟨W.heap.size, 1, none⟩ = some v) (f0 : w2.frozen? ⟨W.heap.size, 0, none⟩ = false) (f1 : w2.frozen? ⟨W.heap.size, 1, none⟩ = false) :
    RV W K T (.pointer (some ⟨W.heap.size, 0, none⟩)) ((w2.setCell ⟨W.heap.size, 0, none⟩ (.int .i64 K)).setCell ⟨W.heap.size, 1, none⟩ (.string T)) := by
  refine ⟨W.heap.size, rfl, ⟨?_, ?_, ?_, ?_⟩, below_sets b (Nat.le_refl _) _ _, Nat.le_refl _, by simp [World.size_setCell, hp]⟩
  · rw [World.cell?_setCell_other _ _ _ _ (by intro c; simp only [Addr.mk.injEq] at c; omega), World.cell?_setCell_same _ _ _ c0]
  · exact World.cell?_setCell_same _ _ _ (u := v) (by rw [World.cell?_setCell_other _ _ _ _ (by intro c; simp only [Addr.mk.injEq] at c; omega)]; exact c1)
  · rw [World.frozen?_setCell, World.frozen?_setCell]; exact f0
  · rw [World.frozen?_setCell, World.frozen?_setCell]; exact f1
set_option maxRecDepth 20000 in
set_option maxHeartbeats 2000000 in
theorem specStoreFault (a : Option Addr) (c : Nat) (l : List Ob) (w : World) (h : OB w.heap.size w a l) (hs : SmallO l) (hn : l.length ≤ 1048576) :
    Calls Try.prog 61 #[.slice a l.length c] w fun e w' => e = .returned (.int .i64 (sf l)) ∧ Below w.heap.size w w' := by
  by_cases hm : 200 < l.length
  · have hC : Hid (sf l = 2) := sf_many hm
    have q : (200 : Int) < (l.length : Int) := by omega
    go_enter Try.func61, Try.ntmps61
    go_wp2
    go_ret
    exact ⟨ret_int hC.out.symm, Below.refl _ _⟩
  have q : ¬ (200 : Int) < (l.length : Int) := by omega
  go_enter Try.func61, Try.ntmps61
  go_wp2
  go_loopw [3, 4] (fun i _r wr => ∃ k : Nat, k ≤ l.length ∧ i = .int .i64 k ∧ Hid (∀ j, j < k → obF l j = 0) ∧ Below w.heap.size w wr) (fun i _ _ => l.length - (intOf i).toNat)
  case atStart => exact ⟨0, Nat.zero_le _, rfl, fun j hj => absurd hj (Nat.not_lt_zero _), Below.refl _ _⟩
  case round =>
    obtain ⟨k, hk, rfl, hA, hbel⟩ := hrel
    have hsz := hbel.size
    by_cases hlt : k < l.length
    · have qk : (k : Int) < (l.length : Int) := by omega
      have h3 := h.below hbel
      obtain ⟨g, off, e, hg, d0, d1, d2⟩ := h3 k hlt
      subst e
      have hsl := (hs _ (ob_mem l k hlt)).2
      have hbad : ¬ obF l k = 0 → Hid (sf l = obF l k) := fun hb => sf_bad hm hlt hA.out hb
      have hgo : obF l k = 0 → Hid (∀ j, j < k + 1 → obF l j = 0) := fun h0 => by
        show ∀ j, _
        intro j hj
        by_cases e : j = k
        · rw [e]; exact h0
        · exact hA.out j (by omega)
      have hF : obF l k = obF l k := rfl
      conv at hF => rhs; unfold obF
      have hp : 0 < k → wr.cell? ⟨g, off + (k - 1) * 3, none⟩ = some (.string (l.getD (k - 1) onil).1) := fun hk0 => by
        obtain ⟨g', off', e', _, f0, _, _⟩ := h3 (k - 1) (by omega)
        simp only [Option.some.injEq, Addr.mk.injEq, and_true] at e'
        obtain ⟨rfl, rfl⟩ := e'
        exact f0
      obtain ⟨C, hCe⟩ : ∃ C, l.getD k onil = C := ⟨_, rfl⟩
      obtain ⟨P, hPe⟩ : ∃ P, (l.getD (k - 1) onil).1 = P := ⟨_, rfl⟩
      obtain ⟨x0, x1, x2⟩ := C
      rw [hCe] at d0 d1 d2 hsl hF
      rw [hPe] at hF hp
      simp only [] at d0 d1 d2 hsl hF
      have hI := fun w => specIdOf x1 x2 w hsl
      obtain ⟨K, hK⟩ : ∃ K, idK x1 x2 = K := ⟨_, rfl⟩
      obtain ⟨T, hT⟩ : ∃ T, idT x1 x2 = T := ⟨_, rfl⟩
      rw [hK, hT] at hI hF
      clear hK hT hCe hPe hA h3
      -- CASES
      go_wp2
      go_cut [4] from 14 to 25 (fun s wx => RV wr K T s wx)
      case first =>
        have hgr : g < wr.heap.size := by omega
        go_region_held (fun w' => w'.cell? ⟨g, off + k * 3 + 1, none⟩ = some (.int .i64 x1) ∧ w'.cell? ⟨g, off + k * 3 + 2, none⟩ = some (.string x2)) (first | with_reducible exact ⟨k1, k2⟩ | exact ⟨d1, d2⟩ | exact ⟨zcell (allocBelow _ _) d1, zcell (allocBelow _ _) d2⟩ | exact ⟨zcell (allocBelow _ _) k1, zcell (allocBelow _ _) k2⟩ | (have q3 := b3.size; with_reducible refine ⟨twoKeep k1 ?_, twoKeep k2 ?_⟩ <;> omega) | (have q3 := b3.size; with_reducible refine ⟨twoKeep (zcell (allocBelow _ _) k1) ?_, twoKeep (zcell (allocBelow _ _) k2) ?_⟩ <;> omega) | (go_keep; done))
          ((go_at_call 89; refine (hI _).mono ?_; rintro e w2 ⟨rfl, b2⟩; (first | (obtain ⟨c0, c1, f0, f1⟩ := newRes b2; have b3 := (belNew b2).1; have b4 := (belNew b2).2) | (have b3 : Below wr.heap.size wr w2 := (below_drew (Below.refl _ _)).trans b2)); have k1 := zcell b3 d1; have k2 := zcell b3 d2))
        · clear d0 d1 d2 k1 k2 hF hp hbad hgo
          go_wp2_with fail
          go_meet
          exact RV.new b3
        · clear d0 d1 d2 k1 k2 hF hp hbad hgo
          go_wp2_with fail
          go_meet
          exact RV.sets b3 b4 c0 c1 f0 f1
      case rest =>
      obtain ⟨p, rfl, hR, hB, hp1, hp2⟩ := hcut
      have B1 : Below w.heap.size w wc := below_step hbel hsz hB
      have e0 := zcell hB d0
      have c0 := hR.c0
      have c1 := hR.c1
      clear d0 d1 d2 hR hI hbel
      by_cases hK0 : K = 0
      · rw [if_pos hK0] at hF
        subst hK0
        by_cases hTx : T = x0
        · rw [if_pos hTx] at hF
          subst hTx
          have hbt := beqS T
          by_cases hk0 : 0 < k
          · have hI0 : (0 : Int) < (k : Int) := by omega
            have e1 := zcell hB (hp hk0)
            obtain ⟨m, hmk⟩ : ∃ m, k - 1 = m := ⟨_, rfl⟩
            have hw : IntKind.i64.wrap ((k : Int) - 1) = (m : Int) := by rw [IntKind.wrap_i64]; omega
            have hI2 : (m : Int) < (l.length : Int) := by omega
            rw [hmk] at e1
            clear hp hB hmk
            cases hle : leS T P with
            | true =>
              have HC := hbad (by rw [hF, hle, if_pos ⟨hk0, rfl⟩]; decide)
              rw [hF, hle, if_pos ⟨hk0, rfl⟩] at HC
              unfold leS at hle
              clear hbad hgo hF
              cases hlb : Op.bytesLess T.toList P.toList with
              | true =>
                go_wp2
                go_quiet (fail)
                go_wp2
                go_ret
                exact ⟨ret_int HC.out.symm, below_drewN' B1 _⟩
              | false =>
                rw [hlb, Bool.false_or] at hle
                go_wp2
                go_quiet (fail)
                go_wp2
                go_ret
                exact ⟨ret_int HC.out.symm, below_drewN' B1 _⟩
            | false =>
              have HG := hgo (by rw [hF, hle, if_neg (fun c => Bool.noConfusion c.2)])
              unfold leS at hle
              obtain ⟨hl1, hl2⟩ := Bool.or_eq_false_iff.1 hle
              clear hbad hgo hF hle
              go_wp2
              go_quiet (fail)
              go_wp2
              go_roundw
              case rel => exact ⟨k + 1, by omega, by go_num, HG, below_drewN' B1 _⟩
              case measure => first | (simp [intOf]; omega) | simp [intOf]
          · have hI0 : ¬ (0 : Int) < (k : Int) := by omega
            have HG := hgo (by rw [hF, if_neg (fun c => hk0 c.1)])
            clear hbad hgo hF hp hB
            go_wp2
            go_quiet (fail)
            go_wp2
            go_roundw
            case rel => exact ⟨k + 1, by omega, by go_num, HG, below_drewN' B1 _⟩
            case measure => first | (simp [intOf]; omega) | simp [intOf]
        · rw [if_neg hTx] at hF
          have hb := beq_bytes_false hTx
          have HC := hbad (by rw [hF]; decide)
          rw [hF] at HC
          clear hbad hgo hF hp hTx hB
          go_wp2
          go_quiet (fail)
          go_wp2
          go_ret
          exact ⟨ret_int HC.out.symm, below_drewN' B1 _⟩
      · rw [if_neg hK0] at hF
        have qK : (K != 0) = true := ne_beq hK0
        have HC := hbad (by rw [hF]; exact hK0)
        rw [hF] at HC
        clear hbad hgo hF hp hK0 hB
        go_wp2
        go_ret
        exact ⟨ret_int HC.out.symm, B1⟩
    · have qk : ¬ (k : Int) < (l.length : Int) := by omega
      have HC : Hid (sf l = 0) := sf_ok hm (fun j hj => hA.out j (by omega))
      clear hA
      go_wp2
      go_ret
      exact ⟨ret_int HC.out.symm, hbel⟩
-- IMPL
set_option maxRecDepth 20000 in
set_option maxHeartbeats 2000000 in
theorem implStoreFault (a : Option Addr) (c : Nat) (l : List Ob) (w : World) (h : OB w.heap.size w a l) (hs : SmallO l) (hn : l.length ≤ 1048576) :
    Calls Try.prog 64 #[.slice a l.length c] w fun e w' => e = .returned (.int .i64 (sf l)) ∧ Below w.heap.size w w' := by
  by_cases hm : 200 < l.length
  · have hC : Hid (sf l = 2) := sf_many hm
    have q : (200 : Int) < (l.length : Int) := by omega
    go_enter Try.func64, Try.ntmps64
    go_wp2
    go_ret
    exact ⟨ret_int hC.out.symm, Below.refl _ _⟩
  have q : ¬ (200 : Int) < (l.length : Int) := by omega
  go_enter Try.func64, Try.ntmps64
  go_wp2
  go_loopw [3, 4, 5, 11] (fun _j _o _r i wr => ∃ k : Nat, k ≤ l.length ∧ i = .int .i64 k ∧ Hid (∀ j, j < k → obF l j = 0) ∧ Below w.heap.size w wr) (fun _ _ _ i _ => l.length - (intOf i).toNat)
  case atStart => exact ⟨0, Nat.zero_le _, rfl, fun j hj => absurd hj (Nat.not_lt_zero _), Below.refl _ _⟩
  case round =>
    obtain ⟨k, hk, rfl, hA, hbel⟩ := hrel
    have hsz := hbel.size
    by_cases hlt : k < l.length
    · have qk : (k : Int) < (l.length : Int) := by omega
      have h3 := h.below hbel
      obtain ⟨g, off, e, hg, d0, d1, d2⟩ := h3 k hlt
      subst e
      have hsl := (hs _ (ob_mem l k hlt)).2
      have hbad : ¬ obF l k = 0 → Hid (sf l = obF l k) := fun hb => sf_bad hm hlt hA.out hb
      have hgo : obF l k = 0 → Hid (∀ j, j < k + 1 → obF l j = 0) := fun h0 => by
        show ∀ j, _
        intro j hj
        by_cases e : j = k
        · rw [e]; exact h0
        · exact hA.out j (by omega)
      have hF : obF l k = obF l k := rfl
      conv at hF => rhs; unfold obF
      have hp : 0 < k → wr.cell? ⟨g, off + (k - 1) * 3, none⟩ = some (.string (l.getD (k - 1) onil).1) := fun hk0 => by
        obtain ⟨g', off', e', _, f0, _, _⟩ := h3 (k - 1) (by omega)
        simp only [Option.some.injEq, Addr.mk.injEq, and_true] at e'
        obtain ⟨rfl, rfl⟩ := e'
        exact f0
      obtain ⟨C, hCe⟩ : ∃ C, l.getD k onil = C := ⟨_, rfl⟩
      obtain ⟨P, hPe⟩ : ∃ P, (l.getD (k - 1) onil).1 = P := ⟨_, rfl⟩
      obtain ⟨x0, x1, x2⟩ := C
      rw [hCe] at d0 d1 d2 hsl hF
      rw [hPe] at hF hp
      simp only [] at d0 d1 d2 hsl hF
      have hI := fun w => implIdOf x1 x2 w hsl
      obtain ⟨K, hK⟩ : ∃ K, idK x1 x2 = K := ⟨_, rfl⟩
      obtain ⟨T, hT⟩ : ∃ T, idT x1 x2 = T := ⟨_, rfl⟩
      rw [hK, hT] at hI hF
      obtain ⟨W, hW⟩ : ∃ W, wr.alloc (.cells #[.string x0, .int .i64 x1, .string x2] 100) = W := ⟨_, rfl⟩
      have bW : Below wr.heap.size wr W := by rw [← hW]; exact allocBelow _ _
      have oW : Rs W wr.heap.size [.string x0, .int .i64 x1, .string x2] := by rw [← hW]; exact Rs.new _ _ _
      have zW : wr.heap.size < W.heap.size := by rw [← hW]; simp
      have m0 := oW 0 _ rfl
      have m1 := oW 1 _ rfl
      have m2 := oW 2 _ rfl
      clear hK hT hCe hPe hA h3 oW
      go_wp2_with fail
      refine (hI W).mono ?_; rintro e w2 ⟨rfl, b2⟩
      obtain ⟨wc, hwc⟩ : ∃ wc, w2.alloc (.cells #[.int .i64 K, .string T] 48) = wc := ⟨_, rfl⟩
      have hR : Res2 wc w2.heap.size (.int .i64 K) (.string T) := by rw [← hwc]; exact Res2.new _ _ _ _
      have b3 : Below W.heap.size W wc := by rw [← hwc]; exact b2.alloc b2.size _
      have hB : Below wr.heap.size wr wc := bW.trans (b3.mono (Nat.le_of_lt zW))
      have B1 : Below w.heap.size w wc := below_step hbel hsz hB
      have e0 := zcell b3 m0
      have c0 := hR.c0
      have c1 := hR.c1
      clear d0 d1 d2 hR hI hbel m0 m1 m2 hW bW b2 b3
      by_cases hK0 : K = 0
      · rw [if_pos hK0] at hF
        subst hK0
        by_cases hTx : T = x0
        · rw [if_pos hTx] at hF
          subst hTx
          have hbt := beqS T
          by_cases hk0 : 0 < k
          · have hI0 : (0 : Int) < (k : Int) := by omega
            have e1 := zcell hB (hp hk0)
            obtain ⟨m, hmk⟩ : ∃ m, k - 1 = m := ⟨_, rfl⟩
            have hw : IntKind.i64.wrap ((k : Int) - 1) = (m : Int) := by rw [IntKind.wrap_i64]; omega
            have hI2 : (m : Int) < (l.length : Int) := by omega
            rw [hmk] at e1
            clear hp hB hmk
            cases hle : leS T P with
            | true =>
              have HC := hbad (by rw [hF, hle, if_pos ⟨hk0, rfl⟩]; decide)
              rw [hF, hle, if_pos ⟨hk0, rfl⟩] at HC
              unfold leS at hle
              clear hbad hgo hF
              cases hlb : Op.bytesLess T.toList P.toList with
              | true =>
                go_wp2
                go_quiet (fail)
                go_wp2
                go_ret
                exact ⟨ret_int HC.out.symm, below_drewN' B1 _⟩
              | false =>
                rw [hlb, Bool.false_or] at hle
                go_wp2
                go_quiet (fail)
                go_wp2
                go_ret
                exact ⟨ret_int HC.out.symm, below_drewN' B1 _⟩
            | false =>
              have HG := hgo (by rw [hF, hle, if_neg (fun c => Bool.noConfusion c.2)])
              unfold leS at hle
              obtain ⟨hl1, hl2⟩ := Bool.or_eq_false_iff.1 hle
              clear hbad hgo hF hle
              go_wp2
              go_quiet (fail)
              go_wp2
              go_roundw
              case rel => exact ⟨k + 1, by omega, by go_num, HG, below_drewN' B1 _⟩
              case measure => first | (simp [intOf]; omega) | simp [intOf]
          · have hI0 : ¬ (0 : Int) < (k : Int) := by omega
            have HG := hgo (by rw [hF, if_neg (fun c => hk0 c.1)])
            clear hbad hgo hF hp hB
            go_wp2
            go_quiet (fail)
            go_wp2
            go_roundw
            case rel => exact ⟨k + 1, by omega, by go_num, HG, below_drewN' B1 _⟩
            case measure => first | (simp [intOf]; omega) | simp [intOf]
        · rw [if_neg hTx] at hF
          have hb := beq_bytes_false (fun e => hTx e.symm)
          have HC := hbad (by rw [hF]; decide)
          rw [hF] at HC
          clear hbad hgo hF hp hTx hB
          go_wp2
          go_ret
          exact ⟨ret_int HC.out.symm, B1⟩
      · rw [if_neg hK0] at hF
        have qK : (K != 0) = true := ne_beq hK0
        have HC := hbad (by rw [hF]; exact hK0)
        rw [hF] at HC
        clear hbad hgo hF hp hK0 hB
        go_wp2
        go_ret
        exact ⟨ret_int HC.out.symm, B1⟩
    · have qk : ¬ (k : Int) < (l.length : Int) := by omega
      have HC : Hid (sf l = 0) := sf_ok hm (fun j hj => hA.out j (by omega))
      clear hA
      go_wp2
      go_ret
      exact ⟨ret_int HC.out.symm, hbel⟩
end Go.Proofs.Ytlgeoaepjghdhaa
