/- Entries of a tree, as the specification draws them. No statement is proved here. -/
import Derived.Test.YtijphomojljckaaGreatDoorRows
import Derived.Test.YtijphomojljckaaGreatDoorLemQ
import Derived.Test.YtijphomojljckaaGreatDoorLFLemQ
import Derived.Test.YtijphomojljckaaGreatDoorComQ
import Derived.Test.YtijphomojljckaaGreatDoorInQ
import Derived.Test.YtijphomojljckaaGreatDoorHkTQ
import Derived.Test.YtijphomojljckaaGreatDoorTeLQ
import Derived.Test.YtijphomojljckaaGreatDoorTeAQ
import Derived.Test.YtijphomojljckaaGreatDoorDigCQ
import Derived.Test.YtijphomojljckaaGreatDoorDrawQ
import Derived.Test.YtijphomojljckaaGreatDoorCutDQ
import Derived.WalkKit
import Derived.ProofKit
import Derived.Below
import Derived.WalkSpells
import Derived.Maps.AppendAt
import Derived.Deep.QuietTactic
import Derived.BigQuiet
import Derived.Deep.RegionWith
import Derived.Deep.RegionHeld
import Derived.Deep.Cut
import Derived.Deep.CutRange
import Derived.Deep.Onto
set_option linter.unusedVariables false
namespace Go.Proofs.YtijphomojljckaaGreatDoor.Te
open Go.ChangeShapes Go.WideShapes Go.ChangeAt Go.RowKit
theorem oneX (l : List Ob) : ∀ u ∈ ocells l, u.oneCell' = true := by
  intro u hu
  unfold ocells rowG at hu
  obtain ⟨j, _, rfl⟩ := List.mem_map.1 hu
  unfold ocell
  split
  · rfl
  · split <;> rfl
theorem wpList_appX {w : World} {ops : Array Oper} {rest : List Oper} {o : Oper} {a : Act} {Q : Exit → Act → World → Prop} (hgd : o.guard = none) (s x : Operand)
    (ho : o.op = .call { callee := .builtin .append, args := #[s, x], argTypes := #[25, 25] })
    (base : Nat) (v : Value) (S0 : List Ob) (hs : a.eval s = v) (hown : w.ownsRow base 72 3 v S0.length (ocells S0))
    (AD : Addr) (cx : Nat) (S1 : List Ob) (hx : a.eval x = .slice (some AD) S1.length cx) (hx2 : ∀ j u, (ocells S1)[j]? = some u → w.cell? (AD.add j) = some u)
    (hb : S0.length + S1.length ≤ 2097152) (hbase : base ≤ w.heap.size)
    (h : ∀ v' w', w'.ownsRow base 72 3 v' (S0 ++ S1).length (ocells (S0 ++ S1)) → w.grownBy w' v.ownBlock → (v' = .slice none 0 0 ↔ v = .slice none 0 0 ∧ S1.length = 0) → (v'.ownBlock = v.ownBlock ∨ v'.ownBlock = some w.heap.size) → wpList Tryz.prog ops Q rest (a.put o.dst v') w') :
    wpList Tryz.prog ops Q (o :: rest) a w := by
  obtain ⟨i0, hi, hz0, hz1, hz2⟩ := info_parts infoObj
  refine wpList_append_own_at _ hgd s x _ ho base _ i0 _ 3 40 Tryz.underlying25 hi hz0 hz1 hz2 rfl (by decide) v _ _ hs hown AD S1.length cx (ocells S1) hx (ocells_length _) hx2 (oneX _) (by unfold maxLen; omega) (by omega) hbase ?_
  intro v' w' o1 g1 n1 k1
  refine h v' w' ?_ g1 n1 k1
  rw [List.length_append, ocells_app]; exact o1
theorem newX (w : World) (f : Ob) : ∀ j u, (ocells [f])[j]? = some u → (w.alloc (.cells #[.string f.1, .int .i64 f.2.1, .string f.2.2] 72)).cell? ((⟨w.heap.size, 0, none⟩ : Addr).add j) = some u := by
  intro j u hu
  rw [ocells_one] at hu
  have h := Rs.new w #[.string f.1, .int .i64 f.2.1, .string f.2.2] 72 j u hu
  rw [add_plain, Nat.zero_add]
  exact h
abbrev TeR (base : Nat) (w : World) (g c : Nat) (L : List Ob) : Prop := w.ownsRow base 72 3 (.slice (some ⟨g, 0, none⟩) L.length c) L.length (ocells L)
theorem grB {w w' : World} (h : Below w.heap.size w w') (row : Option Nat) : w.grownBy w' row := ⟨h.os, h.tape, h.output, h.size, fun j hj _ => h.block j hj⟩
theorem TeR.grew {base g c b : Nat} {w w' : World} {L : List Ob} (h : TeR base w g c L) (hg : w.grownBy w' (some b)) (hb : b < base) : TeR base w' g c L :=
  h.kept hg (.inr (by rw [ownBlock_slice]; have := (h.lt g rfl).1; simp; omega))
theorem TeR.bel {base g c : Nat} {w w' : World} {L : List Ob} (h : TeR base w g c L) (hb : Below w.heap.size w w') : TeR base w' g c L :=
  h.kept (grB hb none) (blockCases _ _ fun b c1 c2 => by cases c2)
theorem litX (w : World) : TeR w.heap.size (w.alloc (.cells #[] 72)) w.heap.size 0 [] := World.ownsRow_made w #[] 0 (Nat.le_refl _) (by unfold maxLen; omega) rfl
theorem ownedX {w : World} {base : Nat} {v : Value} {L : List Ob} (h : w.ownsRow base 72 3 v L.length (ocells L)) (h0 : 0 < L.length) : ∃ g c, v = .slice (some ⟨g, 0, none⟩) L.length c := by
  rcases h.2 with ⟨_, hh⟩ | ⟨g, c, cur, e, _⟩
  · omega
  · exact ⟨g, c, e⟩
/-- What stands while entries are drawn: the row, the names, the source. -/
structure EW (N b q nb : Nat) (a : Option Addr) (n cap : Nat) (k : Int) (w wr : World) (g c : Nat) (L : List Ob) (k' : Int) : Prop where
  own : TeR q wr g c L
  nm : LitB wr nb 6 100
  src : Src N wr b a n cap k'
  hi : k' ≤ k
  gr : w.grownBy wr (some b)
theorem EW.draw {N b q nb : Nat} {a : Option Addr} {n cap : Nat} {k : Int} {w wr w2 : World} {g c : Nat} {L : List Ob} {k' k2 : Int} (h : EW N b q nb a n cap k w wr g c L k') (hs : Src N w2 b a n cap k2) (hg : wr.grownBy w2 (some b)) (hb : b < q) (hnb : nb ≠ b) (K : Int) (hk : k2 ≤ K) : EW N b q nb a n cap K w w2 g c L k2 :=
  ⟨h.own.grew hg hb, h.nm.kept hg (by simpa using hnb), hs, hk, grown_trans h.gr hg⟩
theorem EW.bel {N b q nb : Nat} {a : Option Addr} {n cap : Nat} {k : Int} {w wr w2 : World} {g c : Nat} {L : List Ob} {k' : Int} (h : EW N b q nb a n cap k w wr g c L k') (hB : Below wr.heap.size wr w2) : EW N b q nb a n cap k w w2 g c L k' :=
  ⟨h.own.bel hB, h.nm.kept (grB hB none) (by simp), h.src.below hB, h.hi, grown_trans h.gr (grB hB _)⟩
end Go.Proofs.YtijphomojljckaaGreatDoor.Te
/- Entries of a tree, as the specification draws them. No statement is proved here. -/
set_option linter.unusedVariables false
namespace Go.Proofs.YtijphomojljckaaGreatDoor.Te
open Go.ChangeShapes Go.WideShapes Go.ChangeAt Go.RowKit
theorem _root_.Go.Proofs.YtijphomojljckaaGreatDoor.Rf.grewX {w w' : World} {p b : Nat} {vs : List Value} (h : Rf w p vs) (hp : p < w.heap.size) (hg : w.grownBy w' (some b)) (hne : p ≠ b) : Rf w' p vs :=
  ⟨fun k v hk => hg.cell (h.at_ k v hk) (by simpa using hne), fun k => by have q := hg.block p hp (by simpa using hne); have f := h.fz k; unfold World.frozen? at f ⊢; rw [q]; exact f⟩
theorem EW.step {N b q nb : Nat} {a : Option Addr} {n cap : Nat} {k : Int} {w wr w2 : World} {g c p : Nat} {L : List Ob} {k' : Int} (h : EW N b q nb a n cap k w wr g c L k') (hg : wr.grownBy w2 (some p)) (h1 : g ≠ p) (h2 : nb ≠ p) (h3 : b ≠ p) (h4 : N ≤ p) (h5 : w.heap.size ≤ p) : EW N b q nb a n cap k w w2 g c L k' :=
  ⟨h.own.kept hg (.inr (by rw [ownBlock_slice]; simpa using h1)), h.nm.kept hg (by simpa using h2), h.src.kept hg (by simpa using h3) (fun j hj => by cases hj; exact h4), h.hi, grown_new h.gr hg (fun j hj => by cases hj; exact h5)⟩
theorem grS3 (w : World) (p : Nat) (u v z : Value) : w.grownBy (((w.setCell ⟨p, 0, none⟩ u).setCell ⟨p, 1, none⟩ v).setCell ⟨p, 2, none⟩ z) (some p) := grown_trans (grown_trans (grownSet w p 0 u) (grownSet _ p 1 v)) (grownSet _ p 2 z)
theorem _root_.Go.Proofs.YtijphomojljckaaGreatDoor.Rf.set3X {w : World} {b : Nat} {x y z u v t : Value} (h : Rf w b [x, y, z]) : Rf (((w.setCell ⟨b, 0, none⟩ u).setCell ⟨b, 1, none⟩ v).setCell ⟨b, 2, none⟩ t) b [u, v, t] :=
  ((h.set (o := 0) (by simp) u).set (o := 1) (by simp) v).set (o := 2) (by simp) t
/-- The entry under way: a block of its own beside what stands. -/
def ER (N b q nb : Nat) (a : Option Addr) (n cap : Nat) (K : Int) (w w1 : World) (g c : Nat) (L : List Ob) (x : ByteArray) (s : Value) (wx : World) : Prop :=
  ∃ (p : Nat) (r : Int) (y : ByteArray) (k' : Int), s = .pointer (some ⟨p, 0, none⟩) ∧ 0 ≤ r ∧ r < 3 ∧ y.size ≤ 100 ∧ Rf wx p [.string x, .int .i64 (1 + r), .string y] ∧ w1.heap.size ≤ p ∧ p < wx.heap.size ∧ EW N b q nb a n cap K w wx g c L k'
theorem ER.mk' {N b q nb : Nat} {a : Option Addr} {n cap : Nat} {K k' : Int} {w w1 wx : World} {g c p : Nat} {L : List Ob} {x : ByteArray} {r : Int} {v0 v1 v2 : Value} (hE : EW N b q nb a n cap K w wx g c L k') (hR : Rf wx p [v0, v1, v2]) (h0 : 0 ≤ r) (h1 : r < 3)
    (hp : w1.heap.size ≤ p) (hpx : p < wx.heap.size) (e1 : g ≠ p) (e2 : nb ≠ p) (e3 : b ≠ p) (e4 : N ≤ p) (e5 : w.heap.size ≤ p) :
    ER N b q nb a n cap K w w1 g c L x (.pointer (some ⟨p, 0, none⟩)) (((wx.setCell ⟨p, 0, none⟩ (.string x)).setCell ⟨p, 1, none⟩ (.int .i64 (1 + r))).setCell ⟨p, 2, none⟩ (.string ⟨#[]⟩)) :=
  ⟨p, r, ⟨#[]⟩, k', rfl, h0, h1, by decide, hR.set3X, hp, Nat.lt_of_lt_of_le hpx (grS3 _ _ _ _ _).size, hE.step (grS3 _ _ _ _ _) e1 e2 e3 e4 e5⟩
theorem hexs_lenX (D : Nat) : ∀ i, (hexs D i).length = i := by
  intro i; induction i generalizing D with
  | zero => simp [hexs]
  | succ i ih => simp [hexs, ih]
theorem idN_sz (k : Int) (d : ByteArray) : (idN k d).size = 5 := by
  unfold idN; simp [ByteArray.size, hexs_lenX]
/-- An entry as it is drawn: short texts, a small mode. -/
def EOk (o : Ob) : Prop := o.1.size ≤ 100 ∧ 0 ≤ o.2.1 ∧ o.2.1 ≤ 4 ∧ o.2.2.size ≤ 100
def EntPost (N b : Nat) (a : Option Addr) (n cap : Nat) (k : Int) (w : World) (e : Ending) (w' : World) : Prop :=
  ∃ (L : List Ob) (g c : Nat) (k' : Int), e = .returned (.slice (some ⟨g, 0, none⟩) L.length c) ∧ L.length ≤ 5000 ∧ (∀ o ∈ L, EOk o) ∧
    TeR w.heap.size w' g c L ∧ Src N w' b a n cap k' ∧ k' ≤ k + 40 ∧ w.grownBy w' (some b)
end Go.Proofs.YtijphomojljckaaGreatDoor.Te
