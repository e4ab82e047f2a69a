/- Contracts of the specification's draws (l1Source, l1Next, l1Chance, l1Word) over this seat's program. No statement is proved here. -/
import Derived.Test.YtkgcpndnlefkoaaGreatDoorRows
import Derived.Test.YtkgcpndnlefkoaaGreatDoorLemQ
import Derived.Test.YtkgcpndnlefkoaaGreatDoorLwEQ
import Derived.WalkKit
import Derived.ProofKit
import Derived.Below
import Derived.WalkSpells
import Derived.Deep.QuietTactic
import Derived.BigQuiet
import Derived.Carry
import Derived.Laws.Concat
import Derived.Maps.AppendAt
namespace Go.Proofs.YtkgcpndnlefkoaaGreatDoor
open Go.ChangeShapes Go.WideShapes Go.ChangeAt Go.RowKit

/-- A source of draws: a block of its own that holds the code's slice and how many draws there were. -/
structure Src (N : Nat) (w : World) (b : Nat) (a : Option Addr) (n cap : Nat) (k : Int) : Prop where
  blk : w.heap[b]? = some (.cells #[.slice a n cap, .int .i64 k] 59 (0, 0))
  ge : N ≤ b
  len : n ≤ 2097152
  lo : 0 ≤ k
  bytes : ∀ i, i < n → ∃ cb co z, a = some ⟨cb, co, none⟩ ∧ cb < N ∧ w.cell? ⟨cb, co + i, none⟩ = some (.int .u8 z) ∧ 0 ≤ z ∧ z ≤ 255
theorem Src.lt {N : Nat} {w : World} {b : Nat} {a : Option Addr} {n cap : Nat} {k : Int} (h : Src N w b a n cap k) : b < w.heap.size := (Array.getElem?_eq_some_iff.1 h.blk).1
theorem Src.c0 {N : Nat} {w : World} {b : Nat} {a : Option Addr} {n cap : Nat} {k : Int} (h : Src N w b a n cap k) : w.cell? ⟨b, 0, none⟩ = some (.slice a n cap) := by simp [World.cell?, h.blk]
theorem Src.c1 {N : Nat} {w : World} {b : Nat} {a : Option Addr} {n cap : Nat} {k : Int} (h : Src N w b a n cap k) : w.cell? ⟨b, 1, none⟩ = some (.int .i64 k) := by simp [World.cell?, h.blk]
theorem Src.f1 {N : Nat} {w : World} {b : Nat} {a : Option Addr} {n cap : Nat} {k : Int} (h : Src N w b a n cap k) : w.frozen? ⟨b, 1, none⟩ = false := by simp [World.frozen?, h.blk]
theorem Src.kept {N : Nat} {w w' : World} {b : Nat} {a : Option Addr} {n cap : Nat} {k : Int} {row : Option Nat} (h : Src N w b a n cap k) (hg : w.grownBy w' row) (hb : some b ≠ row) (hr : ∀ j, row = some j → N ≤ j) : Src N w' b a n cap k :=
  ⟨(hg.block b h.lt hb).trans h.blk, h.ge, h.len, h.lo, fun i hi => by
    obtain ⟨cb, co, z, e, hcb, hc, z0, z1⟩ := h.bytes i hi
    exact ⟨cb, co, z, e, hcb, hg.cell hc (fun e' => by have := hr cb e'.symm; omega), z0, z1⟩⟩
theorem Src.below {N : Nat} {w w' : World} {b : Nat} {a : Option Addr} {n cap : Nat} {k : Int} (h : Src N w b a n cap k) (hb : Below w.heap.size w w') : Src N w' b a n cap k :=
  h.kept (grown_of_below hb none) (by simp) (fun _ e => by cases e)
theorem Src.next {N : Nat} {w : World} {b : Nat} {a : Option Addr} {n cap : Nat} {k : Int} (h : Src N w b a n cap k) (m : Nat) : Src N ((w.setCell ⟨b, 1, none⟩ (.int .i64 (k + 1))).drewN m) b a n cap (k + 1) := by
  refine ⟨?_, h.ge, h.len, by have := h.lo; omega, fun i hi => ?_⟩
  · show (w.setCell ⟨b, 1, none⟩ (.int .i64 (k + 1))).heap[b]? = _
    rw [heap_setCell_same w b 1 _ _ _ h.blk]
    rfl
  · obtain ⟨cb, co, z, e, hcb, hc, z0, z1⟩ := h.bytes i hi
    refine ⟨cb, co, z, e, hcb, ?_, z0, z1⟩
    show (w.setCell ⟨b, 1, none⟩ (.int .i64 (k + 1))).cell? ⟨cb, co + i, none⟩ = _
    rw [World.cell?_of_block (w := w) (Below.heap_setCell w _ _ cb (by have := h.ge; show cb ≠ b; omega))]
    exact hc
theorem grown_next (w : World) (b : Nat) (v : Value) (m : Nat) : w.grownBy ((w.setCell ⟨b, 1, none⟩ v).drewN m) (some b) :=
  ⟨rfl, rfl, rfl, by simp, fun j _ hj => Below.heap_setCell w ⟨b, 1, none⟩ v j (fun e => hj (by rw [e]))⟩

/-- What a draw out of nn gives. -/
def Drawn (nn r : Int) : Prop := 0 ≤ r ∧ (1 ≤ nn → r < nn) ∧ (nn < 1 → r = 0)
theorem drawn_mod {nn v : Int} (h1 : ¬ nn < 1) : Drawn nn (v % nn) := ⟨Int.emod_nonneg _ (by omega), fun _ => Int.emod_lt_of_pos _ (by omega), fun h => absurd h h1⟩

set_option maxHeartbeats 2000000 in
theorem l1Next (N b : Nat) (a : Option Addr) (n cap : Nat) (k nn : Int) (w : World) (h : Src N w b a n cap k) (hk : k ≤ 4294967296) :
    Calls Tryz.prog 42 #[.pointer (some ⟨b, 0, none⟩), .int .i64 nn] w fun e w' => ∃ r, e = .returned (.int .i64 r) ∧ Drawn nn r ∧ Src N w' b a n cap (k + 1) ∧ w.grownBy w' (some b) := by
  have c0 := h.c0
  have c1 := h.c1
  have f1 := h.f1
  have hlo := h.lo
  have hln := h.len
  by_cases h1 : nn < 1
  · go_enter Tryz.func42, Tryz.ntmps42
    go_wp2
    go_ret
    exact ⟨0, rfl, ⟨by omega, fun e => by omega, fun _ => rfl⟩, h.next 0, grown_next _ _ _ 0⟩
  have HD : Hid (∀ v : Int, Drawn nn (v % nn)) := fun v => drawn_mod h1
  by_cases h2 : ((n : Int) == 0) = true
  · go_enter Tryz.func42, Tryz.ntmps42
    go_wp2
    go_ret
    exact ⟨_, rfl, HD.out _, h.next 0, grown_next _ _ _ 0⟩
  · have h2' : ((n : Int) == 0) = false := by simpa using h2
    have hn1 : 1 ≤ n := by have : ¬ (n : Int) = 0 := by simpa using h2
                           omega
    obtain ⟨j, hj⟩ := Int.eq_ofNat_of_zero_le (Int.emod_nonneg k (by omega : (n : Int) ≠ 0))
    have hjn : j < n := by have := Int.emod_lt_of_pos k (by omega : (0 : Int) < n); omega
    obtain ⟨cb, co, z, rfl, hcb, hcz, z0, z1⟩ := h.bytes j hjn
    have hw : (w.setCell ⟨b, 1, none⟩ (.int .i64 (k + 1))).cell? ⟨cb, co + j, none⟩ = some (.int .u8 z) := by
      rw [World.cell?_of_block (w := w) (Below.heap_setCell w _ _ cb (by have := h.ge; show cb ≠ b; omega))]
      exact hcz
    have hqd : 0 ≤ k / (n : Int) ∧ k / (n : Int) ≤ 4294967296 := ⟨Int.ediv_nonneg hlo (by omega), Int.le_trans (Int.ediv_le_self _ hlo) hk⟩
    obtain ⟨q0, q1⟩ := hqd
    have hjI : (j : Int) < (n : Int) := by omega
    clear h2
    by_cases h3 : 200 < nn
    · obtain ⟨j', hj'⟩ := Int.eq_ofNat_of_zero_le (Int.emod_nonneg (k + 1) (by omega : (n : Int) ≠ 0))
      have hjn' : j' < n := by have := Int.emod_lt_of_pos (k + 1) (by omega : (0 : Int) < n); omega
      obtain ⟨cb', co', z', e', hcb', hcz', z0', z1'⟩ := h.bytes j' hjn'
      simp only [Option.some.injEq, Addr.mk.injEq, and_true] at e'
      obtain ⟨rfl, rfl⟩ := e'
      have hw' : (w.setCell ⟨b, 1, none⟩ (.int .i64 (k + 1))).cell? ⟨cb, co + j', none⟩ = some (.int .u8 z') := by
        rw [World.cell?_of_block (w := w) (Below.heap_setCell w _ _ cb (by have := h.ge; show cb ≠ b; omega))]
        exact hcz'
      have hjI' : (j' : Int) < (n : Int) := by omega
      go_enter Tryz.func42, Tryz.ntmps42
      go_wp2
      go_quiet (fail)
      go_wp2
      go_quiet (fail)
      go_wp2
      go_ret
      exact ⟨_, rfl, HD.out _, h.next _, grown_next _ _ _ _⟩
    · go_enter Tryz.func42, Tryz.ntmps42
      go_wp2
      go_quiet (fail)
      go_wp2
      go_ret
      exact ⟨_, rfl, HD.out _, h.next _, grown_next _ _ _ _⟩

/-- The bytes of a code that came in. -/
def Bts (w : World) (a : Option Addr) (n : Nat) : Prop := ∀ i, i < n → ∃ cb co z, a = some ⟨cb, co, none⟩ ∧ cb < w.heap.size ∧ w.cell? ⟨cb, co + i, none⟩ = some (.int .u8 z) ∧ 0 ≤ z ∧ z ≤ 255
theorem Bts.below {w w' : World} {a : Option Addr} {n : Nat} (h : Bts w a n) (hb : Below w.heap.size w w') : Bts w' a n := fun i hi => by
  obtain ⟨cb, co, z, e, hcb, hc, z0, z1⟩ := h i hi
  exact ⟨cb, co, z, e, Nat.lt_of_lt_of_le hcb hb.size, (hb.cell (p := ⟨cb, co + i, none⟩) hcb).trans hc, z0, z1⟩

set_option maxHeartbeats 400000 in
theorem l1Source (a : Option Addr) (n cap : Nat) (w : World) (h : Bts w a n) (hn : n ≤ 2097152) :
    Calls Tryz.prog 11 #[.slice a n cap] w fun e w' => e = .returned (.pointer (some ⟨w.heap.size, 0, none⟩)) ∧ Src w.heap.size w' w.heap.size a n cap 0 ∧ Below w.heap.size w w' := by
  go_enter Tryz.func11, Tryz.ntmps11
  go_wp2
  go_ret
  have hB : ∀ o, Below w.heap.size w (w.alloc o) := fun o => (Below.refl _ _).alloc (Nat.le_refl _) _
  refine ⟨rfl, ⟨heap_alloc_new w _, Nat.le_refl _, hn, Int.le_refl _, fun i hi => ?_⟩, hB _⟩
  obtain ⟨cb, co, z, e, hcb, hc, z0, z1⟩ := h i hi
  exact ⟨cb, co, z, e, hcb, ((hB _).cell (p := ⟨cb, co + i, none⟩) hcb).trans hc, z0, z1⟩

set_option maxHeartbeats 400000 in
theorem l1Chance (N b : Nat) (a : Option Addr) (n cap : Nat) (k nn : Int) (w : World) (h : Src N w b a n cap k) (hk : k ≤ 4294967296) :
    Calls Tryz.prog 25 #[.pointer (some ⟨b, 0, none⟩), .int .i64 nn] w fun e w' => ∃ r, e = .returned (.bool r) ∧ Src N w' b a n cap (k + 1) ∧ w.grownBy w' (some b) := by
  go_enter Tryz.func25, Tryz.ntmps25
  go_wp2_with fail
  refine (l1Next N b a n cap k nn _ h hk).mono ?_; rintro e w1 ⟨r, rfl, _, hs, hg⟩
  go_wp2_with fail
  go_ret
  exact ⟨_, rfl, hs, hg⟩

set_option maxHeartbeats 800000 in
theorem l1Word (N b : Nat) (a : Option Addr) (n cap : Nat) (k : Int) (w : World) (h : Src N w b a n cap k) (hk : k ≤ 4294967296) :
    Calls Tryz.prog 45 #[.pointer (some ⟨b, 0, none⟩)] w fun e w' => ∃ x, e = .returned (.string x) ∧ x.size ≤ 7 ∧ Src N w' b a n cap (k + 1) ∧ w.grownBy w' (some b) := by
  have hB : ∀ o, Below w.heap.size w (w.alloc o) := fun o => (Below.refl _ _).alloc (Nat.le_refl _) _
  have hlt := h.lt
  go_enter Tryz.func45, Tryz.ntmps45
  go_wp2_with fail
  refine (l1Next N b a n cap k 9 _ (h.below (hB _)) hk).mono ?_; rintro e w2 ⟨r, rfl, hd, hs, hg⟩
  have hd0 := hd.1
  have hd1 : r < 9 := hd.2.1 (by omega)
  obtain ⟨j, rfl⟩ := Int.eq_ofNat_of_zero_le hd0
  have hj : j < 9 := by omega
  obtain ⟨x, hx, hsz⟩ : ∃ x : ByteArray, w2.cell? ⟨w.heap.size, j, none⟩ = some (.string x) ∧ x.size ≤ 7 := by
    have hbk := (hg.block w.heap.size (by simp) (by simp; omega)).trans (heap_alloc_new w _)
    have hc : ∀ i, w2.cell? ⟨w.heap.size, i, none⟩ = _ := fun i => cell_of_row w2 w.heap.size i _ _ _ hbk
    rw [hc]
    have : j = 0 ∨ j = 1 ∨ j = 2 ∨ j = 3 ∨ j = 4 ∨ j = 5 ∨ j = 6 ∨ j = 7 ∨ j = 8 := by omega
    rcases this with rfl | rfl | rfl | rfl | rfl | rfl | rfl | rfl | rfl <;> exact ⟨_, rfl, by decide⟩
  have hg2 := grown_trans (World.grownBy_alloc w _ (some b)) hg
  clear hg hd hd0 hd1
  go_wp2_with fail
  go_ret
  exact ⟨x, rfl, hsz, hs, hg2⟩

/-- An argument that is a code of bytes, opened. -/
theorem openBts {H : Type} {enc : TypeId × Value → H} {W : World} {a : Option Addr} {len cap : Nat} {d : DataW H} {p : List MemPlace}
    (h : DataW.Trod enc Tryz.prog W 0 (fun _ => true) true 22 (.slice a len cap) d p) (hlt : ∀ x ∈ p, x.block < W.heap.size) :
    Bts W a len ∧ len ≤ 9223372036854775807 := by
  obtain ⟨fuel, hf⟩ := h
  rcases open_ints Tryz.underlying22 Tryz.underlying5 (by kernel_rfl) hf with ⟨hcs, _⟩ | ⟨x, l, c, zs, hcs, _, hl, hm, hz, hx, hcell, hwz⟩
  · simp [Value.cells] at hcs
    obtain ⟨rfl, rfl, rfl⟩ := hcs
    exact ⟨fun k hk => absurd hk (Nat.not_lt_zero _), by simp⟩
  · simp [Value.cells] at hcs
    obtain ⟨rfl, rfl, rfl⟩ := hcs
    simp only [if_true] at hz
    simp only [Prod.mk.injEq] at hx
    obtain ⟨rfl, rfl⟩ := hx
    unfold maxLen at hm
    refine ⟨fun k hk => ?_, by omega⟩
    have hc := hcell k (by omega)
    obtain ⟨b, off, spot⟩ := x
    have hspot : spot = none := by simpa [Addr.add] using World.cell?_spot (hcell 0 (by omega))
    subst hspot
    have hmem : zs.getD k 0 ∈ zs := by
      rw [List.getD, List.getElem?_eq_getElem (by omega)]
      exact List.getElem_mem _
    have hb : 0 ≤ zs.getD k 0 ∧ zs.getD k 0 ≤ 255 := by
      have := hwz _ hmem
      simpa [Lit.wf, IntKind.min, IntKind.max, IntKind.signed, IntKind.bits] using this
    refine ⟨b, off, zs.getD k 0, rfl, ?_, ?_, hb.1, hb.2⟩
    · exact hlt (.cell b (off + k)) (MemPlace.mem_row.2 ⟨k, by omega, by simp⟩)
    · rw [← add_plain]
      exact hc
end Go.Proofs.YtkgcpndnlefkoaaGreatDoor
/- The contract of the specification's l1Lines over this seat's program. No statement is proved here. -/
namespace Go.Proofs.YtkgcpndnlefkoaaGreatDoor
open Go.ChangeShapes Go.WideShapes Go.ChangeAt Go.RowKit

theorem grown_new {a b c : World} {row row' : Option Nat} (h : a.grownBy b row) (k : b.grownBy c row') (hr : ∀ j, row' = some j → a.heap.size ≤ j) : a.grownBy c row :=
  ⟨k.os.trans h.os, k.tape.trans h.tape, k.output.trans h.output, Nat.le_trans h.size k.size, fun i hi hne => (k.block i (Nat.lt_of_lt_of_le hi h.size) (fun e => by have := hr i e.symm; omega)).trans (h.block i hi hne)⟩
/-- Every string is of at most z bytes. -/
def Small (z : Nat) (ss : List ByteArray) : Prop := ∀ x ∈ ss, x.size ≤ z
theorem Small.nil (z : Nat) : Small z [] := fun _ h => by cases h
theorem Small.snoc {z : Nat} {ss : List ByteArray} {x : ByteArray} (h : Small z ss) (hx : x.size ≤ z) : Small z (ss ++ [x]) := fun y hy => by
  rcases List.mem_append.1 hy with h' | h'
  · exact h y h'
  · rw [List.mem_singleton.1 h']; exact hx
theorem Small.set {z : Nat} {ss : List ByteArray} {x : ByteArray} (h : Small z ss) (hx : x.size ≤ z) (i : Nat) : Small z (ss.set i x) := fun y hy => by
  rcases List.mem_or_eq_of_mem_set hy with h' | h'
  · exact h y h'
  · rw [h']; exact hx
theorem ownBlock_slice (g n cap : Nat) : (Value.slice (some ⟨g, 0, none⟩) n cap).ownBlock = some g := rfl

theorem own_succ {W : World} {base : Nat} {e : TypeId} {v : Value} {k : Nat} {xs : List Value} (h : W.ownsRow base e 1 v (k + 1) xs) : ∃ g cap, v = .slice (some ⟨g, 0, none⟩) (k + 1) cap := by
  rcases h.2 with ⟨_, h0⟩ | ⟨g, cap, _, h', _⟩
  · omega
  · exact ⟨g, cap, h'⟩
theorem map_set (ss : List ByteArray) (i : Nat) (x : ByteArray) : (ss.map Value.string).set i (.string x) = (ss.set i x).map Value.string := by rw [List.map_set]

def LinesPost (N b : Nat) (a : Option Addr) (n cap : Nat) (k : Int) (n0 : Nat) (w : World) (e : Ending) (w' : World) : Prop :=
  ∃ (ss : List ByteArray) (g c : Nat) (k' : Int), e = .returned (.slice (some ⟨g, 0, none⟩) ss.length c) ∧ ss.length ≤ n0 ∧ Small 8 ss ∧
      w'.ownsRow w.heap.size 9 1 (.slice (some ⟨g, 0, none⟩) ss.length c) ss.length (ss.map Value.string) ∧ Src N w' b a n cap k' ∧ k' ≤ k + n0 + 2 ∧ w.grownBy w' (some b)

set_option maxHeartbeats 3000000 in
theorem l1Lines (N b : Nat) (a : Option Addr) (n cap : Nat) (k : Int) (n0 : Nat) (w : World) (h : Src N w b a n cap k) (hk : k ≤ 4294900000) (hn0 : n0 ≤ 1000) :
    Calls Tryz.prog 41 #[.pointer (some ⟨b, 0, none⟩), .int .i64 n0] w fun e w' => LinesPost N b a n cap k n0 w e w' := by
  obtain ⟨i0, hi, hz0, hz1, hz2⟩ := info_parts infoString
  have hlt := h.lt
  have hge := h.ge
  have hB : ∀ o, Below w.heap.size w (w.alloc o) := fun o => (Below.refl _ _).alloc (Nat.le_refl _) _
  go_enter Tryz.func41, Tryz.ntmps41
  go_wp2
  go_loopw [1, 5] (fun i v wr => ∃ (m : Nat) (ss : List ByteArray) (g c : Nat) (k' : Int), i = .int .i64 m ∧ v = .slice (some ⟨g, 0, none⟩) ss.length c ∧ ss.length + m ≤ n0 ∧ Small 8 ss ∧
      wr.ownsRow w.heap.size 9 1 (.slice (some ⟨g, 0, none⟩) ss.length c) ss.length (ss.map Value.string) ∧ Src N wr b a n cap k' ∧ k' + m ≤ k + n0 ∧ w.grownBy wr (some b) ∧ w.heap.size + 1 ≤ wr.heap.size) (fun i _ _ => (intOf i).toNat)
  case atStart =>
    refine ⟨n0, [], w.heap.size, 0, k, rfl, rfl, by simp, Small.nil _, ?_, h.below (hB _), by omega, World.grownBy_alloc _ _ _, by simp⟩
    exact World.ownsRow_lit w #[] 0 (Nat.le_refl _) (Nat.zero_le _) rfl
  case round =>
    obtain ⟨m, ss, g, c, k', rfl, rfl, hm, hsm, hown, hsrc, hkm, hgr, hsz⟩ := hrel
    have hgg := hown.lt g rfl
    by_cases hpos : 0 < m
    · have hp : (0 : Int) < (m : Int) := by omega
      go_wp2_with fail
      refine (l1Word N b a n cap k' _ hsrc (by omega)).mono ?_; rintro e w1 ⟨x, rfl, hx, hsrc1, hg1⟩
      have hown1 := hown.kept hg1 (.inr (by rw [ownBlock_slice]; simp; omega))
      have hS1 := hg1.size
      have hgr1 := grown_trans hgr hg1
      have hxs : (x ++ (⟨#[10]⟩ : ByteArray)).size = x.size + 1 := by rw [ByteArray.size_append]; rfl
      obtain ⟨y, hy⟩ : ∃ y, x ++ (⟨#[10]⟩ : ByteArray) = y := ⟨_, rfl⟩
      rw [hy] at hxs
      have hy8 : y.size ≤ 8 := by omega
      have hx9 : x.size + (⟨#[10]⟩ : ByteArray).size ≤ 9223372036854775807 := by have : (⟨#[10]⟩ : ByteArray).size = 1 := rfl
                                                                                 omega
      clear hxs hown hsrc hgr hg1
      go_wp2_with (at_builtin; refine wpList_append_own _ rfl (.tmp 11) (.tmp 15) 39 rfl w.heap.size 9 i0 (.string ByteArray.empty) 1 16 Tryz.underlying39 hi hz0 hz1 hz2 rfl (by decide) (.slice (some ⟨g, 0, none⟩) ss.length c) _ _ rfl (hown1.alloc _) ⟨w1.heap.size, 0, none⟩ 1 1 [.string y] rfl rfl (cell_one_new _ _ _) (by simp [Value.oneCell']) (by unfold maxLen; omega) (by omega) (by simp; omega) ?_; intro v' w2 hown2 hg2 _)
      obtain ⟨g', c', rfl⟩ := own_succ hown2
      have hga := hg2.size
      simp only [World.size_alloc] at hga
      have hsrc2 : Src N w2 b a n cap (k' + 1) := (hsrc1.below ((Below.refl _ _).alloc (Nat.le_refl _) _)).kept hg2 (by rw [ownBlock_slice]; simp; omega) (fun j hj => by rw [ownBlock_slice] at hj; cases hj; omega)
      have hgr2 : w.grownBy w2 (some b) := grown_new (grown_trans hgr1 (World.grownBy_alloc _ _ _)) hg2 (fun j hj => by rw [ownBlock_slice] at hj; cases hj; omega)
      go_roundw
      case rel =>
        refine ⟨m - 1, ss ++ [y], g', c', k' + 1, ?_, by simp, by simp; omega, hsm.snoc hy8, by simpa using hown2, hsrc2, by omega, hgr2, by omega⟩
        go_num
      case measure => simp [intOf]; omega
    · have hp : ¬ (0 : Int) < (m : Int) := by omega
      by_cases h0 : 0 < ss.length
      · have h0' : (0 : Int) < (ss.length : Int) := by omega
        go_wp2_with fail
        refine (l1Chance N b a n cap k' 5 _ hsrc (by omega)).mono ?_; rintro e w1 ⟨r, rfl, hsrc1, hg1⟩
        have hown1 := hown.kept hg1 (.inr (by rw [ownBlock_slice]; simp; omega))
        have hgr1 := grown_trans hgr hg1
        have hS1 := hg1.size
        clear hown hsrc hgr hg1
        cases r with
        | false =>
          go_wp2_with fail
          go_ret
          exact ⟨ss, g, c, k' + 1, rfl, by omega, hsm, hown1, hsrc1, by omega, hgr1⟩
        | true =>
          have hB1 : ∀ o, Below w1.heap.size w1 (w1.alloc o) := fun o => (Below.refl _ _).alloc (Nat.le_refl _) _
          go_wp2_with fail
          refine (l1Next N b a n cap (k' + 1) 3 _ (hsrc1.below (hB1 _)) (by omega)).mono ?_; rintro e w2 ⟨r, rfl, hd, hsrc2, hg2⟩
          have hd0 := hd.1
          have hd1 : r < 3 := hd.2.1 (by omega)
          obtain ⟨j, rfl⟩ := Int.eq_ofNat_of_zero_le hd0
          have hj : j < 3 := by omega
          obtain ⟨x, hx, hx8⟩ : ∃ x : ByteArray, w2.cell? ⟨w1.heap.size, j, none⟩ = some (.string x) ∧ x.size ≤ 8 := by
            have hbk := (hg2.block w1.heap.size (by simp) (by simp; omega)).trans (heap_alloc_new w1 _)
            have hc : ∀ i, w2.cell? ⟨w1.heap.size, i, none⟩ = _ := fun i => cell_of_row w2 w1.heap.size i _ _ _ hbk
            rw [hc]
            have : j = 0 ∨ j = 1 ∨ j = 2 := by omega
            rcases this with rfl | rfl | rfl <;> exact ⟨_, rfl, by decide⟩
          have hown2 := (hown1.alloc _).kept hg2 (.inr (by rw [ownBlock_slice]; simp; omega))
          have hgr2 := grown_trans hgr1 (grown_trans (World.grownBy_alloc w1 _ (some b)) hg2)
          have hfz := hown2.frozenAt (ss.length - 1)
          have hold := hown2.cellAt (ss.length - 1) (by omega)
          rw [List.getElem?_eq_getElem (by simp; omega)] at hold
          have hidx : ((ss.length : Int) - 1).toNat = ss.length - 1 := by omega
          have hib : (ss.length : Int) - 1 < (ss.length : Int) := by omega
          obtain ⟨hs1, hs2⟩ := hown2.stored (ss.length - 1) (.string x)
          rw [map_set] at hs1
          have hgr3 : w.grownBy (w2.setCell ⟨g, ss.length - 1, none⟩ (.string x)) (some b) := grown_new hgr2 hs2 (fun j hj => by cases hj; omega)
          have hsrc3 : Src N (w2.setCell ⟨g, ss.length - 1, none⟩ (.string x)) b a n cap (k' + 1 + 1) := hsrc2.kept hs2 (by simp; omega) (fun j hj => by cases hj; omega)
          have HF : Hid (LinesPost N b a n cap k n0 w (.returned (.slice (some ⟨g, 0, none⟩) ss.length c)) (w2.setCell ⟨g, ss.length - 1, none⟩ (.string x))) :=
            ⟨ss.set (ss.length - 1) x, g, c, k' + 1 + 1, by simp, by simp; omega, hsm.set hx8 _, by simpa using hs1, hsrc3, by omega, hgr3⟩
          clear hgr3 hsrc3 hs1 hs2 hgr2 hown2 hg2 hown1 hsrc1 hsrc2 hgr1 hd hd0 hd1
          go_wp2_with fail
          go_ret
          exact HF.out
      · have h0' : ¬ (0 : Int) < (ss.length : Int) := by omega
        go_wp2_with fail
        go_ret
        exact ⟨ss, g, c, k', rfl, by omega, hsm, hown, hsrc, by omega, hgr⟩
end Go.Proofs.YtkgcpndnlefkoaaGreatDoor
