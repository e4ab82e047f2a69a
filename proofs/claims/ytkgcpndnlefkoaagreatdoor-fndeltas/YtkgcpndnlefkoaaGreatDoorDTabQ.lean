/- The program's table of common lines in memory: how its cells read, and what a store and a clear make of them. No statement is proved here. -/
import Derived.Test.YtkgcpndnlefkoaaGreatDoorRows
import Derived.Test.YtkgcpndnlefkoaaGreatDoorLemQ
import Derived.Test.YtkgcpndnlefkoaaGreatDoorComQ
import Derived.WalkKit
import Derived.ProofKit
import Derived.Below
import Derived.Lib.SliceRun
namespace Go.Proofs.YtkgcpndnlefkoaaGreatDoor
open Go.ChangeShapes Go.WideShapes Go.ChangeAt Go.RowKit

theorem grownOfBelow {w w' : World} (h : Below w.heap.size w w') (row : Option Nat) : w.grownBy w' row := ⟨h.os, h.tape, h.output, h.size, fun k hk _ => h.block k hk⟩
theorem grownTrans {a b c : World} {row : Option Nat} (h : a.grownBy b row) (k : b.grownBy c row) : a.grownBy c row :=
  ⟨k.os.trans h.os, k.tape.trans h.tape, k.output.trans h.output, Nat.le_trans h.size k.size, fun i hi hne => (k.block i (Nat.lt_of_lt_of_le hi h.size) hne).trans (h.block i hi hne)⟩
theorem grownSet (w : World) (b o : Nat) (v : Value) : w.grownBy (w.setCell ⟨b, o, none⟩ v) (some b) :=
  ⟨rfl, rfl, rfl, by simp [World.setCell], fun k _ hne => Below.heap_setCell _ _ _ _ (fun e => hne (by rw [e]))⟩
theorem grownDrew {a w : World} {row : Option Nat} (h : a.grownBy w row) (n : Nat) : a.grownBy (w.drewN n) row := ⟨h.os, h.tape, h.output, h.size, h.block⟩
theorem grownSets (b : Nat) : ∀ (vs : List Value) (o : Nat) (w : World), w.grownBy (w.setCells b o vs) (some b)
  | [], _, w => World.grownBy.refl w _
  | v :: r, o, w => grownTrans (grownSet w b o v) (grownSets b r (o + 1) _)

/-- A slice of strings that lies below block B. -/
def SSB (B : Nat) (w : World) (a : Option Addr) (ss : List ByteArray) : Prop :=
  (∀ k, k < ss.length → (ss.getD k ByteArray.empty).size ≤ 9223372036854775807) ∧
  ∀ k, k < ss.length → ∃ b off, a = some ⟨b, off, none⟩ ∧ b < B ∧ w.cell? ⟨b, off + k, none⟩ = some (.string (ss.getD k ByteArray.empty))
theorem SSB.toSS {B : Nat} {w : World} {a : Option Addr} {ss : List ByteArray} (h : SSB B w a ss) (hB : B ≤ w.heap.size) : SS w a ss :=
  ⟨h.1, fun k hk => by obtain ⟨b, off, e, hb, hc⟩ := h.2 k hk; exact ⟨b, off, e, by omega, hc⟩⟩
theorem SS.toB {w : World} {a : Option Addr} {ss : List ByteArray} (h : SS w a ss) : SSB w.heap.size w a ss := h
theorem SSB.grown {B : Nat} {w w' : World} {row : Option Nat} {a : Option Addr} {ss : List ByteArray} (h : SSB B w a ss) (hg : w.grownBy w' row) (hr : ∀ k, row = some k → B ≤ k) : SSB B w' a ss :=
  ⟨h.1, fun k hk => by
    obtain ⟨b, off, e, hb, hc⟩ := h.2 k hk
    exact ⟨b, off, e, hb, hg.cell hc (fun e' => by have := hr b e'.symm; omega)⟩⟩
theorem SSB.below {B : Nat} {w w' : World} {a : Option Addr} {ss : List ByteArray} (h : SSB B w a ss) (hb : Below w.heap.size w w') : SSB B w' a ss := h.grown (grownOfBelow hb none) (fun _ e => by cases e)
theorem SSB.drewN {B : Nat} {w : World} {a : Option Addr} {ss : List ByteArray} (h : SSB B w a ss) (n : Nat) : SSB B (w.drewN n) a ss := h
theorem SSB.mono {B B' : Nat} {w : World} {a : Option Addr} {ss : List ByteArray} (h : SSB B w a ss) (hB : B ≤ B') : SSB B' w a ss :=
  ⟨h.1, fun k hk => by obtain ⟨b, off, e, hb, hc⟩ := h.2 k hk; exact ⟨b, off, e, by omega, hc⟩⟩

/-- The table at block p: two rows of lengths, and which lines of a are passed over. -/
def DT (w : World) (p : Nat) (cm : Nat → Nat → Int) (sk : Nat → Nat → Bool) : Prop :=
  (∀ r j, r < 2 → j < 101 → w.cell? ⟨p, r * 101 + j, none⟩ = some (.int .i64 (cm r j)) ∧ w.frozen? ⟨p, r * 101 + j, none⟩ = false) ∧
  (∀ i j, i < 100 → j < 100 → w.cell? ⟨p, 202 + i * 100 + j, none⟩ = some (.bool (sk i j)) ∧ w.frozen? ⟨p, 202 + i * 100 + j, none⟩ = false)
def putC (cm : Nat → Nat → Int) (r j : Nat) (v : Int) : Nat → Nat → Int := fun r' j' => if r' = r ∧ j' = j then v else cm r' j'
def putS (sk : Nat → Nat → Bool) (i j : Nat) (v : Bool) : Nat → Nat → Bool := fun i' j' => if i' = i ∧ j' = j then v else sk i' j'
def putR (cm : Nat → Nat → Int) (r : Nat) : Nat → Nat → Int := fun r' j' => if r' = r then 0 else cm r' j'
theorem putC_same (cm : Nat → Nat → Int) (r j : Nat) (v : Int) : putC cm r j v r j = v := if_pos ⟨rfl, rfl⟩
theorem putC_other (cm : Nat → Nat → Int) (r j : Nat) (v : Int) (r' j' : Nat) (h : ¬ (r' = r ∧ j' = j)) : putC cm r j v r' j' = cm r' j' := if_neg h
theorem putS_same (sk : Nat → Nat → Bool) (i j : Nat) (v : Bool) : putS sk i j v i j = v := if_pos ⟨rfl, rfl⟩
theorem putS_other (sk : Nat → Nat → Bool) (i j : Nat) (v : Bool) (i' j' : Nat) (h : ¬ (i' = i ∧ j' = j)) : putS sk i j v i' j' = sk i' j' := if_neg h
theorem DT.drewN {w : World} {p : Nat} {cm : Nat → Nat → Int} {sk : Nat → Nat → Bool} (h : DT w p cm sk) (n : Nat) : DT (w.drewN n) p cm sk := h
theorem DT.setC {w : World} {p : Nat} {cm : Nat → Nat → Int} {sk : Nat → Nat → Bool} (h : DT w p cm sk) (r j : Nat) (hr : r < 2) (hj : j < 101) (v : Int) :
    DT (w.setCell ⟨p, r * 101 + j, none⟩ (.int .i64 v)) p (putC cm r j v) sk := by
  refine ⟨fun r' j' hr' hj' => ⟨?_, by rw [World.frozen?_setCell]; exact (h.1 r' j' hr' hj').2⟩, fun i' j' hi' hj' => ⟨?_, by rw [World.frozen?_setCell]; exact (h.2 i' j' hi' hj').2⟩⟩
  · by_cases e : r' = r ∧ j' = j
    · obtain ⟨rfl, rfl⟩ := e
      rw [World.cell?_setCell_same _ _ _ (h.1 r' j' hr hj).1]
      simp [putC]
    · rw [World.cell?_setCell_other _ _ _ _ (by intro c; simp only [Addr.mk.injEq] at c; omega), (h.1 r' j' hr' hj').1]
      simp [putC, e]
  · rw [World.cell?_setCell_other _ _ _ _ (by intro c; simp only [Addr.mk.injEq] at c; omega), (h.2 i' j' hi' hj').1]
theorem DT.setS {w : World} {p : Nat} {cm : Nat → Nat → Int} {sk : Nat → Nat → Bool} (h : DT w p cm sk) (i j : Nat) (hi : i < 100) (hj : j < 100) (v : Bool) :
    DT (w.setCell ⟨p, 202 + i * 100 + j, none⟩ (.bool v)) p cm (putS sk i j v) := by
  refine ⟨fun r' j' hr' hj' => ⟨?_, by rw [World.frozen?_setCell]; exact (h.1 r' j' hr' hj').2⟩, fun i' j' hi' hj' => ⟨?_, by rw [World.frozen?_setCell]; exact (h.2 i' j' hi' hj').2⟩⟩
  · rw [World.cell?_setCell_other _ _ _ _ (by intro c; simp only [Addr.mk.injEq] at c; omega), (h.1 r' j' hr' hj').1]
  · by_cases e : i' = i ∧ j' = j
    · obtain ⟨rfl, rfl⟩ := e
      rw [World.cell?_setCell_same _ _ _ (h.2 i' j' hi hj).1]
      simp [putS]
    · rw [World.cell?_setCell_other _ _ _ _ (by intro c; simp only [Addr.mk.injEq] at c; omega), (h.2 i' j' hi' hj').1]
      simp [putS, e]
theorem DT.clr {w : World} {p : Nat} {cm : Nat → Nat → Int} {sk : Nat → Nat → Bool} (h : DT w p cm sk) (r : Nat) (hr : r < 2) :
    DT (w.setCells p (r * 101) (List.replicate 101 (.int .i64 0))) p (putR cm r) sk := by
  refine ⟨fun r' j' hr' hj' => ⟨?_, by rw [World.frozen?_setCells]; exact (h.1 r' j' hr' hj').2⟩, fun i' j' hi' hj' => ⟨?_, by rw [World.frozen?_setCells]; exact (h.2 i' j' hi' hj').2⟩⟩
  · by_cases e : r' = r
    · subst e
      rw [World.cell?_setCells_in p _ _ _ (fun j hj => by rw [(h.1 r' j hr (by simpa using hj)).1]; rfl) j' (by simpa using hj'), List.getElem_replicate]
      simp [putR]
    · rw [World.cell?_setCells_out p _ _ _ _ (fun _ _ => by simp only [List.length_replicate]; omega), (h.1 r' j' hr' hj').1]
      simp [putR, e]
  · rw [World.cell?_setCells_out p _ _ _ _ (fun _ _ => by simp only [List.length_replicate]; omega), (h.2 i' j' hi' hj').1]
theorem clearRow {w : World} {p : Nat} {cm : Nat → Nat → Int} {sk : Nat → Nat → Bool} (h : DT w p cm sk) (r : Nat) (hr : r < 2) (ty : TypeId) :
    (Builtin.clear_ #[95] ty #[.slice (some ⟨p, r * 101, none⟩) 101 101]).run Tryz.prog w = .ok (.tuple #[]) (w.setCells p (r * 101) (List.replicate 101 (.int .i64 0))) :=
  Lib.run_clear_slice w 95 2 ty (.int .i64 0) Tryz.underlying95 (fun w => by simp [go_sem]) rfl rfl p (r * 101) 101 101 (by omega)
    (fun j hj => by rw [(h.1 r j hr hj).1]; rfl) (fun j hj => (h.1 r j hr hj).2)
end Go.Proofs.YtkgcpndnlefkoaaGreatDoor
/- Rows that are owned, and structs of two cells: small laws. No statement is proved here. -/
namespace Go.Proofs.YtkgcpndnlefkoaaGreatDoor
open Go.ChangeShapes Go.WideShapes Go.ChangeAt Go.RowKit

theorem ownMono {w : World} {base b : Nat} {e : TypeId} {v : Value} {n : Nat} {xs : List Value} (h : w.ownsRow base e 1 v n xs) (hb : b ≤ base) : w.ownsRow b e 1 v n xs := by
  refine ⟨h.1, ?_⟩
  rcases h.2 with h' | ⟨g, cap, cur, h1, h2, h3⟩
  · exact .inl h'
  · exact .inr ⟨g, cap, cur, h1, by omega, h3⟩
theorem blockCases (v : Value) (row : Option Nat) (h : ∀ j, v.ownBlock = some j → row = some j → False) : v.ownBlock = none ∨ v.ownBlock ≠ row := by
  rcases e : v.ownBlock with _ | j
  · exact .inl rfl
  · exact .inr (fun c => h j e c.symm)
theorem ret_agg2 {a b c d : Value} (h1 : a = c) (h2 : b = d) : Ending.returned (.agg #[a, b]) = .returned (.agg #[c, d]) := by rw [h1, h2]
/-- A struct of two cells that a variable holds. -/
structure Res2 (w : World) (p : Nat) (u v : Value) : Prop where
  c0 : w.cell? ⟨p, 0, none⟩ = some u
  c1 : w.cell? ⟨p, 1, none⟩ = some v
  f0 : w.frozen? ⟨p, 0, none⟩ = false
  f1 : w.frozen? ⟨p, 1, none⟩ = false
theorem Res2.new (w : World) (u v : Value) (t : TypeId) : Res2 (w.alloc (.cells #[u, v] t)) w.heap.size u v := ⟨by simp, by simp, by simp, by simp⟩
theorem Res2.below {w w' : World} {p : Nat} {u v : Value} (h : Res2 w p u v) (hp : p < w.heap.size) (hb : Below w.heap.size w w') : Res2 w' p u v :=
  ⟨(hb.cell (p := ⟨p, 0, none⟩) hp).trans h.c0, (hb.cell (p := ⟨p, 1, none⟩) hp).trans h.c1, (hb.frozen (p := ⟨p, 0, none⟩) hp).trans h.f0, (hb.frozen (p := ⟨p, 1, none⟩) hp).trans h.f1⟩
theorem below_sets {B p : Nat} {a w : World} (h : Below B a w) (hp : B ≤ p) (u v : Value) : Below B a ((w.setCell ⟨p, 0, none⟩ u).setCell ⟨p, 1, none⟩ v) := (h.setCell (p := ⟨p, 0, none⟩) hp u).setCell (p := ⟨p, 1, none⟩) hp v
theorem allocBelow (w : World) (o : Obj) : Below w.heap.size w (w.alloc o) := (Below.refl _ _).alloc (Nat.le_refl _) _
theorem ne_beq {v : Int} (h : ¬ v = 0) : (v != 0) = true := by simp [h]
theorem shapeS {w : World} {base : Nat} {e : TypeId} {v : Value} {n : Nat} {xs : List Value} (h : w.ownsRow base e 1 v n xs) : ∃ a c, v = .slice a n c := by
  rcases h.2 with ⟨rfl, rfl⟩ | ⟨g, cap, cur, rfl, _⟩
  · exact ⟨_, _, rfl⟩
  · exact ⟨_, _, rfl⟩
theorem newsOf {B : Nat} {w : World} {AD : Addr} {ss : List ByteArray} (h : SSB B w (some AD) ss) : ∀ j u, (ss.map Value.string)[j]? = some u → w.cell? (AD.add j) = some u := by
  intro j u hj
  have hl : j < ss.length := by have := (List.getElem?_eq_some_iff.1 hj).1; simpa using this
  obtain ⟨b, off, e, hb, hc⟩ := h.2 j hl
  simp only [Option.some.injEq] at e
  subst e
  rw [add_plain, hc, ← hj, getD_at ss j hl]
  simp [hl]
theorem oneStr (ss : List ByteArray) : ∀ u ∈ ss.map Value.string, u.oneCell' = true := by
  intro u hu
  obtain ⟨x, _, rfl⟩ := List.mem_map.1 hu
  rfl
theorem mapApp (xs ys : List ByteArray) : xs.map Value.string ++ ys.map Value.string = (xs ++ ys).map Value.string := by rw [List.map_append]
theorem ownLen {w : World} {base : Nat} {e : TypeId} {v : Value} {n : Nat} {xs : List Value} (h : w.ownsRow base e 1 v n xs) : w.ownsRow base e 1 v xs.length xs := by
  have h1 := h.1
  have e : n = xs.length := by omega
  rw [← e]; exact h
theorem vbOf {u v : Value} {B n m : Nat} (hu : ∀ j, u.ownBlock = some j → B ≤ j ∧ j < n) (hk : v.ownBlock = u.ownBlock ∨ v.ownBlock = some m) (hnm : n < m) (hl : ∀ j, v.ownBlock = some j → B ≤ j) : ∀ j, v.ownBlock = some j → B ≤ j ∧ j ≠ n := by
  intro j hj
  refine ⟨hl j hj, ?_⟩
  rcases hk with h | h
  · rw [h] at hj; have := (hu j hj).2; omega
  · rw [h] at hj; simp only [Option.some.injEq] at hj; omega
theorem below_drew {B : Nat} {a w : World} (h : Below B a w) : Below B a w.drew := h.trans ⟨rfl, rfl, rfl, Nat.le_refl _, fun _ _ => rfl⟩
/-- The answer with code r and lines L, in memory of its own. -/
def LP (r : Int) (L : List ByteArray) (w : World) (e : Ending) (w' : World) : Prop := ∃ v, e = .returned (.agg #[.int .i64 r, v]) ∧ w'.ownsRow w.heap.size 9 1 v L.length (L.map Value.string) ∧ Below w.heap.size w w'
end Go.Proofs.YtkgcpndnlefkoaaGreatDoor
/- Frames: a step that turns old blocks between lo and hi alone, and what stays behind it. No statement is proved here. -/
namespace Go.Proofs.YtkgcpndnlefkoaaGreatDoor
open Go.ChangeShapes Go.WideShapes Go.ChangeAt Go.RowKit

/-- Of the old blocks none but those from lo on and below hi has turned. -/
structure Fr (lo hi : Nat) (w w' : World) : Prop where
  os : w'.os = w.os
  tape : w'.tape = w.tape
  output : w'.output = w.output
  size : w.heap.size ≤ w'.heap.size
  block : ∀ k, k < w.heap.size → k < lo ∨ hi ≤ k → w'.heap[k]? = w.heap[k]?
theorem Fr.refl (lo hi : Nat) (w : World) : Fr lo hi w w := ⟨rfl, rfl, rfl, Nat.le_refl _, fun _ _ _ => rfl⟩
theorem Fr.trans {lo hi : Nat} {a b c : World} (h : Fr lo hi a b) (k : Fr lo hi b c) : Fr lo hi a c :=
  ⟨k.os.trans h.os, k.tape.trans h.tape, k.output.trans h.output, Nat.le_trans h.size k.size, fun i hi' ho => (k.block i (Nat.lt_of_lt_of_le hi' h.size) ho).trans (h.block i hi' ho)⟩
theorem Fr.ofBelow {lo hi : Nat} {w w' : World} (h : Below w.heap.size w w') : Fr lo hi w w' := ⟨h.os, h.tape, h.output, h.size, fun k hk _ => h.block k hk⟩
theorem Fr.ofGrown {lo hi : Nat} {w w' : World} {row : Option Nat} (h : w.grownBy w' row) (hr : ∀ j, row = some j → lo ≤ j ∧ j < hi) : Fr lo hi w w' :=
  ⟨h.os, h.tape, h.output, h.size, fun k hk ho => h.block k hk (fun e => by have := hr k e.symm; omega)⟩
theorem Fr.drewN {lo hi : Nat} {a w : World} (h : Fr lo hi a w) (n : Nat) : Fr lo hi a (w.drewN n) := ⟨h.os, h.tape, h.output, h.size, h.block⟩
theorem Fr.ofAlloc {lo hi : Nat} (w : World) (o : Obj) : Fr lo hi w (w.alloc o) := Fr.ofBelow ((Below.refl _ _).alloc (Nat.le_refl _) _)
theorem cellLt {w : World} {b o : Nat} {v : Value} (h : w.cell? ⟨b, o, none⟩ = some v) : b < w.heap.size := by
  rcases Nat.lt_or_ge b w.heap.size with h' | h'
  · exact h'
  · simp [World.cell?, Array.getElem?_eq_none h'] at h
theorem Fr.cell {lo hi : Nat} {w w' : World} {b o : Nat} {v : Value} (h : Fr lo hi w w') (hc : w.cell? ⟨b, o, none⟩ = some v) (hb : b < lo ∨ hi ≤ b) : w'.cell? ⟨b, o, none⟩ = some v :=
  (World.cell?_of_block (a := ⟨b, o, none⟩) (h.block b (cellLt hc) hb)).trans hc
theorem Fr.own {lo hi base : Nat} {w w' : World} {e : TypeId} {size : Nat} {v : Value} {n : Nat} {xs : List Value} (h : Fr lo hi w w') (ho : w.ownsRow base e size v n xs) (hb : ∀ j, v.ownBlock = some j → j < lo ∨ hi ≤ j) : w'.ownsRow base e size v n xs := by
  refine ⟨ho.1, ?_⟩
  rcases ho.2 with h' | ⟨g, cap, cur, rfl, h2, h3, h4⟩
  · exact .inl h'
  · exact .inr ⟨g, cap, cur, rfl, h2, by rw [h.block g (Array.getElem?_eq_some_iff.1 h3).1 (hb g rfl)]; exact h3, h4⟩
theorem Fr.ssb {lo hi B : Nat} {w w' : World} {a : Option Addr} {ss : List ByteArray} (h : Fr lo hi w w') (hs : SSB B w a ss) (hB : B ≤ lo) : SSB B w' a ss :=
  ⟨hs.1, fun k hk => by
    obtain ⟨b, off, e, hb, hc⟩ := hs.2 k hk
    exact ⟨b, off, e, hb, h.cell hc (by omega)⟩⟩
theorem Fr.below {lo hi B : Nat} {a w w' : World} (h : Fr lo hi w w') (hb : Below B a w) (h1 : B ≤ lo) (h2 : B ≤ w.heap.size) : Below B a w' :=
  hb.trans ⟨h.os, h.tape, h.output, h.size, fun k hk => h.block k (by omega) (by omega)⟩
/-- The cells of a struct that a variable holds. -/
def Rs (w : World) (b : Nat) (vs : List Value) : Prop := ∀ k v, vs[k]? = some v → w.cell? ⟨b, k, none⟩ = some v
theorem Fr.rs {lo hi b : Nat} {w w' : World} {vs : List Value} (h : Fr lo hi w w') (hs : Rs w b vs) (hb : b < lo ∨ hi ≤ b) : Rs w' b vs := fun k v hk => h.cell (hs k v hk) hb
theorem Rs.new (w : World) (vs : Array Value) (t : TypeId) : Rs (w.alloc (.cells vs t)) w.heap.size vs.toList := fun k v hk => by
  rw [cell_of_row _ _ _ _ _ _ (heap_alloc_new w _)]
  simpa using hk
/-- A row of strings that is owned, as a slice that reads as them. -/
theorem ownSS {w : World} {base cap : Nat} {a : Option Addr} {ss : List ByteArray} (h : w.ownsRow base 9 1 (.slice a ss.length cap) ss.length (ss.map Value.string)) (hz : ∀ k, k < ss.length → (ss.getD k ByteArray.empty).size ≤ 9223372036854775807) : SS w a ss := by
  refine ⟨hz, fun k hk => ?_⟩
  rcases h.2 with ⟨h', h0⟩ | ⟨g, c, cur, h', hb, hg, _⟩
  · omega
  · simp only [Value.slice.injEq] at h'
    obtain ⟨rfl, _⟩ := h'
    exact ⟨g, 0, rfl, (Array.getElem?_eq_some_iff.1 hg).1, by rw [Nat.zero_add, h.cellAt k (by omega), getD_at ss k hk]; simp [hk]⟩
end Go.Proofs.YtkgcpndnlefkoaaGreatDoor
