/- The contracts of HasBlobs, of the specification and of the program. No statement is proved here. -/
import Derived.Test.YtlgeoaepjghdhaaRows
import Derived.Test.YtlgeoaepjghdhaaLem
import Derived.Test.YtlgeoaepjghdhaaStrs
import Derived.Test.YtlgeoaepjghdhaaDTab
import Derived.Test.YtlgeoaepjghdhaaOwn
import Derived.Test.YtlgeoaepjghdhaaFr
import Derived.Test.YtlgeoaepjghdhaaHkT
import Derived.Test.YtlgeoaepjghdhaaObL
import Derived.Test.YtlgeoaepjghdhaaSfC
import Derived.Test.YtlgeoaepjghdhaaGtS
import Derived.Test.YtlgeoaepjghdhaaShM
import Derived.Test.YtlgeoaepjghdhaaShQ
import Derived.Test.YtlgeoaepjghdhaaGoC
import Derived.Test.YtlgeoaepjghdhaaFlL
import Derived.Test.YtlgeoaepjghdhaaFlT
import Derived.WalkKit
import Derived.ProofKit
import Derived.Below
import Derived.WalkSpells
import Derived.Deep.QuietTactic
import Derived.BigQuiet
import Derived.Laws.Cover1
import Derived.Deep.RegionWith
import Derived.Deep.RegionHeld
import Derived.Deep.Cut
import Derived.Deep.CutRange
namespace Go.Proofs.Ytlgeoaepjghdhaa
open Go.ChangeShapes Go.WideShapes Go.ChangeAt Go.RowKit

theorem ret_boolH {c d : Bool} (h : c = d) : Ending.returned (.bool c) = .returned (.bool d) := by rw [h]
theorem zcH {w w' : World} {g o : Nat} {v : Value} (b : Below w.heap.size w w') (h : w.cell? ⟨g, o, none⟩ = some v) : w'.cell? ⟨g, o, none⟩ = some v :=
  (Fr.ofBelow (lo := 0) (hi := 0) b).cell h (.inr (Nat.zero_le _))
/-- Whether the store has the blob of each file. -/
def hbF (l : List Ob) : List Fl.Ob → Bool
  | [] => true
  | f :: t => if (gt l 1 f.2.2).isSome = true then hbF l t else false
theorem hbF_no {l : List Ob} {fs : List Fl.Ob} {k : Nat} (hk : k < fs.length) (h : (gt l 1 (fs.getD k Fl.onil).2.2).isSome = false) : hbF l (fs.drop k) = false := by
  rw [Fl.ob_drop fs k hk, hbF, if_neg (by rw [h]; decide)]
theorem hbF_go {l : List Ob} {fs : List Fl.Ob} {k : Nat} (hk : k < fs.length) (h : (gt l 1 (fs.getD k Fl.onil).2.2).isSome = true) : hbF l (fs.drop k) = hbF l (fs.drop (k + 1)) := by
  rw [Fl.ob_drop fs k hk, hbF, if_pos h]
theorem hbF_end {l : List Ob} {fs : List Fl.Ob} {k : Nat} (hk : fs.length ≤ k) : hbF l (fs.drop k) = true := by
  rw [List.drop_of_length_le hk]; rfl
set_option maxRecDepth 20000 in
set_option maxHeartbeats 2000000 in
theorem l11Blobs (a : Option Addr) (c : Nat) (l : List Ob) (fa : Option Addr) (fc : Nat) (fs : List Fl.Ob) (w : World) (h : OB w.heap.size w a l) (hf : Fl.OB w.heap.size w fa fs) (hn : l.length ≤ 1048576) (hm : fs.length ≤ 1048576) :
    Calls Try.prog 62 #[.slice a l.length c, .slice fa fs.length fc] w fun e w' => e = .returned (.bool (hbF l fs)) ∧ w' = w := by
  have H0 : Hid (hbF l (fs.drop 0) = hbF l fs) := rfl
  obtain ⟨R, hR⟩ : ∃ R, hbF l fs = R := ⟨_, rfl⟩
  rw [hR] at H0 ⊢
  clear hR
  have hG := fun id => l5Get a c l 1 id w h hn
  go_enter Try.func62, Try.ntmps62
  go_wp2
  go_loopw [5, 6, 7] (fun i _ _ wr => ∃ k : Nat, k ≤ fs.length ∧ i = .int .i64 k ∧ wr = w ∧ Hid (hbF l (fs.drop k) = R)) (fun i _ _ _ => fs.length - (intOf i).toNat)
  case atStart => exact ⟨0, Nat.zero_le _, rfl, rfl, H0⟩
  case round =>
    obtain ⟨k, hk, rfl, rfl, h0⟩ := hrel
    clear H0
    by_cases hlt : k < fs.length
    · have q : (k : Int) < (fs.length : Int) := by omega
      obtain ⟨g, off, e, hg, c0, c1, c2⟩ := hf k hlt
      subst e
      have hno := hbF_no (l := l) hlt
      have hgo := hbF_go (l := l) hlt
      obtain ⟨C, hC⟩ : ∃ C, fs.getD k Fl.onil = C := ⟨_, rfl⟩
      obtain ⟨x, y, z⟩ := C
      rw [hC] at c0 c1 c2 hno hgo
      simp only [] at c0 c1 c2 hno hgo
      have hGz := hG z
      clear hC c0 c1 hG
      generalize gt l 1 z = G at hGz hno hgo
      cases hD : G.isSome with
      | false =>
        have HE : Hid (false = R) := (hno hD).symm.trans h0.out
        rw [hD] at hGz
        clear hno hgo h0 hD
        go_wp2_with fail
        refine hGz.mono ?_; rintro e wr ⟨rfl, rfl⟩
        clear hGz
        go_wp2
        go_ret
        exact ⟨ret_boolH HE.out, rfl⟩
      | true =>
        have HN : Hid (hbF l (fs.drop (k + 1)) = R) := (hgo hD).symm.trans h0.out
        rw [hD] at hGz
        clear hno hgo h0 hD
        go_wp2_with fail
        refine hGz.mono ?_; rintro e wr ⟨rfl, rfl⟩
        clear hGz
        go_wp2
        go_roundw
        case rel => exact ⟨k + 1, by omega, by go_num, by trivial, HN⟩
        case measure => first | (simp [intOf]; omega) | simp [intOf]
    · have q : ¬ (k : Int) < (fs.length : Int) := by omega
      have HE : Hid (true = R) := (hbF_end (by omega)).symm.trans h0.out
      clear h0
      go_wp2
      go_ret
      exact ⟨ret_boolH HE.out, rfl⟩
def hasB (l : List Ob) (fs : List Fl.Ob) : Bool := if sf l = 0 then hbF l fs else false
set_option maxRecDepth 20000 in
set_option maxHeartbeats 2000000 in
theorem specHasBlobs (a : Option Addr) (c : Nat) (l : List Ob) (fa : Option Addr) (fc : Nat) (fs : List Fl.Ob) (w : World) (h : OB w.heap.size w a l) (hf : Fl.OB w.heap.size w fa fs) (hs : SmallO l) (hn : l.length ≤ 1048576) (hm : fs.length ≤ 1048576) :
    Calls Try.prog 32 #[.slice a l.length c, .slice fa fs.length fc] w fun e w' => e = .returned (.bool (hasB l fs)) ∧ Below w.heap.size w w' := by
  have hF := specStoreFault a c l w h hs hn
  by_cases e : sf l = 0
  · have hR : hasB l fs = hbF l fs := if_pos e
    have hL := fun W p q => l11Blobs a c l fa fc fs W p q hn hm
    rw [hR]
    rw [e] at hF
    generalize hbF l fs = R at hL ⊢
    clear hR e
    go_enter Try.func32, Try.ntmps32
    go_wp2_with fail
    refine hF.mono ?_; rintro e w1 ⟨rfl, b1⟩
    have z1 := b1.size
    have A1 := (h.below b1).mono z1
    have F1 := (hf.below b1).mono z1
    have hL1 := hL _ A1 F1
    clear hF A1 F1 hL h hf
    go_wp2_with fail
    refine hL1.mono ?_; rintro e w1 ⟨rfl, rfl⟩
    clear hL1
    go_wp2
    go_ret
    exact ⟨rfl, b1⟩
  · have hR : hasB l fs = false := if_neg e
    rw [hR]
    have hne : (sf l == 0) = false := by simpa using e
    generalize sf l = K at hF hne
    clear hR e
    go_enter Try.func32, Try.ntmps32
    go_wp2_with fail
    refine hF.mono ?_; rintro e w1 ⟨rfl, b1⟩
    clear hF
    go_wp2
    go_ret
    exact ⟨rfl, b1⟩
set_option maxRecDepth 20000 in
set_option maxHeartbeats 4000000 in
theorem hasBlobsC (p b : Nat) (l : List Ob) (x : Value) (fa : Option Addr) (fc : Nat) (fs : List Fl.Ob) (w : World) (hz : sf l = 0) (hR : Rf w p [.map (some b), x]) (hp : p < w.heap.size) (hS : Sh w b l) (hf : Fl.OB w.heap.size w fa fs) (hm : fs.length ≤ 1048576) :
    Calls Try.prog 66 #[.pointer (some ⟨p, 0, none⟩), .slice fa fs.length fc] w fun e w' => e = .returned (.bool (hbF l fs)) ∧ Below w.heap.size w w' := by
  have H0 : Hid (hbF l (fs.drop 0) = hbF l fs) := rfl
  obtain ⟨R, hRe⟩ : ∃ R, hbF l fs = R := ⟨_, rfl⟩
  rw [hRe] at H0 ⊢
  clear hRe
  have hG : ∀ id V, Below w.heap.size w V → Calls Try.prog 93 #[.pointer (some ⟨p, 0, none⟩), .int .i64 1, .string id] V fun e w' => e = .returned (.tuple #[.agg #[.string (fo l 1 id).1, .int .i64 (fo l 1 id).2.1, .string (fo l 1 id).2.2], .bool (gt l 1 id).isSome]) ∧ Below V.heap.size V w' := fun id V bV =>
    findC p b l x 1 id V hz (hR.below hp bV) (Nat.lt_of_lt_of_le hp bV.size) (hS.below bV)
  go_enter Try.func66, Try.ntmps66
  go_wp2
  go_loopw [6, 7, 8, 11] (fun _ _ _ i wr => ∃ k : Nat, k ≤ fs.length ∧ i = .int .i64 k ∧ Below w.heap.size w wr ∧ Hid (hbF l (fs.drop k) = R)) (fun _ _ _ i _ => fs.length - (intOf i).toNat)
  case atStart => exact ⟨0, Nat.zero_le _, rfl, Below.refl _ _, H0⟩
  case round =>
    obtain ⟨k, hk, rfl, hbel, h0⟩ := hrel
    clear H0
    have hsz := hbel.size
    by_cases hlt : k < fs.length
    · have q : (k : Int) < (fs.length : Int) := by omega
      obtain ⟨g, off, e, hg, c0, c1, c2⟩ := hf.below hbel k hlt
      subst e
      have hno := hbF_no (l := l) hlt
      have hgo := hbF_go (l := l) hlt
      obtain ⟨C, hC⟩ : ∃ C, fs.getD k Fl.onil = C := ⟨_, rfl⟩
      obtain ⟨x0, x1, z⟩ := C
      rw [hC] at c0 c1 c2 hno hgo
      simp only [] at c0 c1 c2 hno hgo
      clear hC
      obtain ⟨V, hV⟩ : ∃ V, wr.alloc (.cells #[.string x0, .int .i64 x1, .string z] 42) = V := ⟨_, rfl⟩
      have bV : Below wr.heap.size wr V := by rw [← hV]; exact allocBelow _ _
      have rV : Rs V wr.heap.size [.string x0, .int .i64 x1, .string z] := by rw [← hV]; exact Rs.new _ _ _
      have e2 := rV 2 _ rfl
      have sV := bV.size
      have BV : Below w.heap.size w V := below_step hbel hsz bV
      have hGz : ∀ X, Below V.heap.size V X → Calls Try.prog 93 #[.pointer (some ⟨p, 0, none⟩), .int .i64 1, .string z] X fun e w' => e = .returned (.tuple #[.agg #[.string (fo l 1 z).1, .int .i64 (fo l 1 z).2.1, .string (fo l 1 z).2.2], .bool (gt l 1 z).isSome]) ∧ Below X.heap.size X w' := fun X bX =>
        hG z X (below_step BV (by omega) bX)
      obtain ⟨D, hD⟩ : ∃ D, (gt l 1 z).isSome = D := ⟨_, rfl⟩
      rw [hD] at hGz hno hgo
      generalize fo l 1 z = O at hGz
      obtain ⟨O0, O1, O2⟩ := O
      simp only [] at hGz
      clear hD hG rV hR hS hbel bV hp
      go_wp2_with fail
      refine (hGz _ (Below.refl _ _)).mono ?_; rintro e W' ⟨rfl, bW⟩
      obtain ⟨U, hU⟩ : ∃ U, W'.alloc (.cells #[.string O0, .int .i64 O1, .string O2] 100) = U := ⟨_, rfl⟩
      have bU : Below W'.heap.size W' U := by rw [← hU]; exact allocBelow _ _
      have HB := below_step (below_step BV (by omega) bW) (by have := bW.size; omega) bU
      clear hGz bW BV e2 c0 c1 c2 bU
      cases D with
      | false =>
        have HE : Hid (false = R) := (hno rfl).symm.trans h0.out
        clear hno hgo h0
        go_wp2
        go_ret
        exact ⟨ret_boolH HE.out, HB⟩
      | true =>
        have HN : Hid (hbF l (fs.drop (k + 1)) = R) := (hgo rfl).symm.trans h0.out
        clear hno hgo h0
        go_wp2
        go_roundw
        case rel => exact ⟨k + 1, by omega, by go_num, HB, HN⟩
        case measure => first | (simp [intOf]; omega) | simp [intOf]
    · have q : ¬ (k : Int) < (fs.length : Int) := by omega
      have HE : Hid (true = R) := (hbF_end (by omega)).symm.trans h0.out
      clear h0
      go_wp2
      go_ret
      exact ⟨ret_boolH HE.out, hbel⟩
set_option maxRecDepth 20000 in
set_option maxHeartbeats 2000000 in
theorem implHasBlobs (a : Option Addr) (c : Nat) (l : List Ob) (fa : Option Addr) (fc : Nat) (fs : List Fl.Ob) (w : World) (h : OB w.heap.size w a l) (hf : Fl.OB w.heap.size w fa fs) (hs : SmallO l) (hn : l.length ≤ 1048576) (hm : fs.length ≤ 1048576) :
    Calls Try.prog 35 #[.slice a l.length c, .slice fa fs.length fc] w fun e w' => e = .returned (.bool (hasB l fs)) ∧ Below w.heap.size w w' := by
  have hF := implStoreFault a c l w h hs hn
  by_cases e : sf l = 0
  · have hR : hasB l fs = hbF l fs := if_pos e
    have hO := fun W p => shelfOfC a c l W p e
    have hL := fun p b x W r q s f => hasBlobsC p b l x fa fc fs W e r q s f hm
    rw [hR]
    rw [e] at hF
    generalize hbF l fs = R at hL ⊢
    clear hR e
    go_enter Try.func35, Try.ntmps35
    go_wp2_with fail
    refine hF.mono ?_; rintro e w1 ⟨rfl, b1⟩
    have z1 := b1.size
    have hO1 := hO _ ((h.below b1).mono z1)
    have F1 := hf.below b1
    clear hF hO h hf
    go_wp2_with fail
    refine hO1.mono ?_; rintro e w2 ⟨rfl, sR, sS, b2, z2⟩
    have y2 := b2.size
    have B2 := b1.trans (b2.mono z1)
    have hL2 := hL _ _ _ _ sR z2 sS ((F1.below b2).mono (by omega))
    clear hO1 hL sR sS F1 b1 b2
    go_wp2_with fail
    refine hL2.mono ?_; rintro e w3 ⟨rfl, b3⟩
    have B3 := B2.trans (b3.mono (by omega))
    clear hL2 b3 B2
    go_wp2
    go_ret
    exact ⟨rfl, B3⟩
  · have hR : hasB l fs = false := if_neg e
    rw [hR]
    have hne : (sf l == 0) = false := by simpa using e
    generalize sf l = K at hF hne
    clear hR e
    go_enter Try.func35, Try.ntmps35
    go_wp2_with fail
    refine hF.mono ?_; rintro e w1 ⟨rfl, b1⟩
    clear hF
    go_wp2
    go_ret
    exact ⟨rfl, b1⟩
end Go.Proofs.Ytlgeoaepjghdhaa
