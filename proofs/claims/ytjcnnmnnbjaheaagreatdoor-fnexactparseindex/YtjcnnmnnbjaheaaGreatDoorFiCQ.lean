/- The contract of strconv.FormatInt at a commit's time, and its table. No statement is proved here. -/
import Derived.Test.YtjcnnmnnbjaheaaGreatDoorRows
import Derived.Test.YtjcnnmnnbjaheaaGreatDoorLemQ
import Derived.Test.YtjcnnmnnbjaheaaGreatDoorTrWQ
import Derived.Lib.LaidTab
import Derived.Lib.ItoaNum
import Derived.Below
import Derived.WalkKit
import Derived.ProofKit
import Derived.Test.YtjcnnmnnbjaheaaGreatDoorIdxBQ
import Derived.Test.YtjcnnmnnbjaheaaGreatDoorFlLQ
import Derived.Test.YtjcnnmnnbjaheaaGreatDoorDTabQ
import Derived.Test.YtjcnnmnnbjaheaaGreatDoorHkTQ
import Derived.Test.YtjcnnmnnbjaheaaGreatDoorIterQ
import Derived.Test.YtjcnnmnnbjaheaaGreatDoorIdLQ
import Derived.Test.YtjcnnmnnbjaheaaGreatDoorTeLQ
import Derived.Test.YtjcnnmnnbjaheaaGreatDoorWwCQ
import Derived.WalkSpells
import Derived.Laws.Concat
import Derived.Deep.RegionWith
import Derived.Deep.RegionHeld3
import Derived.Deep.QuietTactic
import Derived.BigQuiet
import Derived.Deep.RegionHeld
import Derived.Laws.Cover1
import Derived.Deep.CutRange
namespace Go.Proofs.YtjcnnmnnbjaheaaGreatDoor
open Go.RowKit Go.Sort

/-- The table of powers that strconv reads. -/
def TaG (w : World) : Prop := Lib.TabIs Tryz.prog w "internal/strconv.uint64pow10" .u64 Lib.pow10Tab
theorem gTa : Tryz.prog.globalNamed "internal/strconv.uint64pow10" = some 1 := by kernel_rfl
theorem TaG.below {B : Nat} {w w' : World} (h : TaG w) (hb : Below B w w') (hB : 1 < B) : TaG w' := by
  unfold TaG Lib.TabIs World.var? at *
  rw [gTa] at h ⊢
  simp only [Option.bind_some] at h ⊢
  rw [hb.block _ hB]
  exact h
/-- A number's text. -/
def itB (n : Int) : ByteArray := ⟨(Lib.itoa n).toArray⟩
theorem belGrow (w : World) (q : Nat) (os : Array Obj) : Below w.heap.size w (grow (w.drewN q) os) :=
  ⟨rfl, rfl, rfl, by show w.heap.size ≤ (w.heap ++ os).size; simp, fun k hk => by show (w.heap ++ os)[k]? = w.heap[k]?; simp [Array.getElem?_append, hk]⟩
theorem formatInt (n : Int) (h0 : 0 ≤ n) (h1 : n ≤ 1000000000) (w : World) (ht : TaG w) :
    Calls Tryz.prog 53 #[.int .i64 n, .int .i64 10] w fun e w' => e = .returned (.string (itB n)) ∧ Below w.heap.size w w' := by
  refine (Tryz.strconv_FormatInt_10 n (by omega) (by omega) w ht).mono ?_
  rintro e w' ⟨rfl, k, os, rfl⟩
  exact ⟨rfl, belGrow w k os⟩
theorem dec_len : ∀ (d n : Nat), n < 10 ^ (d + 1) → (Lib.decDigits n).length ≤ d + 1
  | 0, n, h => by rw [Lib.decDigits, dif_pos (by omega)]; simp
  | d + 1, n, h => by
    by_cases h9 : n < 10
    · rw [Lib.decDigits, dif_pos h9]; simp
    · rw [Lib.decDigits, dif_neg h9]
      have := dec_len d (n / 10) (by rw [Nat.pow_succ] at h; omega)
      simp
      omega
theorem it_size {n : Int} (h0 : 0 ≤ n) (h1 : n ≤ 1000000000) : (itB n).size ≤ 10 := by
  show (Lib.itoa n).toArray.size ≤ 10
  rw [Lib.itoa, if_neg (by omega)]
  have := dec_len 9 n.toNat (by omega)
  simpa using this
end Go.Proofs.YtjcnnmnnbjaheaaGreatDoor
/- Fields of a line: what is ahead of the first blank and behind it; the lines of a text. No statement is proved here. -/
namespace Go.Proofs.YtjcnnmnnbjaheaaGreatDoor.Te

/-- What is ahead of the first blank, and what is behind it. -/
def bef (l : List UInt8) : List UInt8 := l.takeWhile (fun c => c != 32)
def aft (l : List UInt8) : List UInt8 := (l.dropWhile (fun c => c != 32)).drop 1
theorem bef_app (q : List UInt8) : ∀ {p : List UInt8}, ¬ (32 : UInt8) ∈ p → bef (p ++ 32 :: q) = p ∧ aft (p ++ 32 :: q) = q
  | [], _ => by simp [bef, aft]
  | x :: xs, h => by
    have h1 : ¬ x = 32 := fun e => h (by rw [e]; exact List.mem_cons_self)
    have ih := bef_app q (p := xs) (fun e => h (List.mem_cons_of_mem _ e))
    simp only [bef, aft] at ih ⊢
    simp only [List.cons_append, List.takeWhile_cons, List.dropWhile_cons, bne_iff_ne, ne_eq, h1, not_false_eq_true, if_true]
    exact ⟨by rw [ih.1], ih.2⟩
theorem bef_no : ∀ {p : List UInt8}, ¬ (32 : UInt8) ∈ p → bef p = p ∧ aft p = []
  | [], _ => by simp [bef, aft]
  | x :: xs, h => by
    have h1 : ¬ x = 32 := fun e => h (by rw [e]; exact List.mem_cons_self)
    have ih := bef_no (p := xs) (fun e => h (List.mem_cons_of_mem _ e))
    simp only [bef, aft] at ih ⊢
    simp only [List.takeWhile_cons, List.dropWhile_cons, bne_iff_ne, ne_eq, h1, not_false_eq_true, if_true]
    exact ⟨by rw [ih.1], ih.2⟩
/-- A line without the line feed that it may end with. -/
def trimL (l : List UInt8) : List UInt8 := if l.getLast? = some 10 then l.dropLast else l
theorem trim_snoc (l : List UInt8) : trimL (l ++ [10]) = l := by simp [trimL]
theorem cut_cons {c : UInt8} : ∀ {l p : List UInt8} {t : List (List UInt8)}, cutL c l = p :: t → ¬ c ∈ p ∧ ((t = [] ∧ l = p) ∨ ∃ q, l = p ++ c :: q ∧ cutL c q = t)
  | [], p, t, h => by
    simp only [cutL, List.cons.injEq] at h
    obtain ⟨rfl, rfl⟩ := h
    exact ⟨by simp, .inl ⟨rfl, rfl⟩⟩
  | x :: xs, p, t, h => by
    by_cases e : x = c
    · simp only [cutL, if_pos e, List.cons.injEq] at h
      obtain ⟨rfl, rfl⟩ := h
      exact ⟨by simp, .inr ⟨xs, by rw [e]; rfl, rfl⟩⟩
    · simp only [cutL, if_neg e] at h
      cases e2 : cutL c xs with
      | nil => have := (cut_len c xs).1; rw [e2] at this; simp at this
      | cons y ys =>
        rw [e2] at h
        simp only [List.cons.injEq] at h
        obtain ⟨rfl, rfl⟩ := h
        obtain ⟨h1, h2⟩ := cut_cons e2
        refine ⟨fun hm => ?_, ?_⟩
        · rcases List.mem_cons.1 hm with hm | hm
          · exact e hm.symm
          · exact h1 hm
        · rcases h2 with ⟨h3, h4⟩ | ⟨q, h3, h4⟩
          · exact .inl ⟨h3, by rw [h4]⟩
          · exact .inr ⟨q, by rw [h3]; rfl, h4⟩
theorem cut3 {c : UInt8} {l p q r : List UInt8} (h : cutL c l = [p, q, r]) : l = p ++ c :: (q ++ c :: r) ∧ ¬ c ∈ p ∧ ¬ c ∈ q ∧ ¬ c ∈ r := by
  obtain ⟨h1, h2⟩ := cut_cons h
  rcases h2 with ⟨h3, _⟩ | ⟨l1, rfl, h4⟩
  · cases h3
  obtain ⟨h5, h6⟩ := cut_cons h4
  rcases h6 with ⟨h7, _⟩ | ⟨l2, rfl, h8⟩
  · cases h7
  obtain ⟨h9, h10⟩ := cut_cons h8
  rcases h10 with ⟨_, rfl⟩ | ⟨l3, _, h11⟩
  · exact ⟨rfl, h1, h5, h9⟩
  · have := (cut_len c l3).1; rw [h11] at this; simp at this
theorem last_snoc {x : List UInt8} (h : x.getLast? = some 10) : x = x.dropLast ++ [10] := by
  cases x with
  | nil => simp at h
  | cons a l =>
    rw [List.getLast?_eq_some_getLast (by simp)] at h
    have e := Option.some.inj h
    have k := List.dropLast_concat_getLast (l := a :: l) (by simp)
    rw [e] at k
    exact k.symm
theorem spl_join : ∀ l : List UInt8, (spl l).flatten = l
  | [] => rfl
  | c :: l => by
    have ih := spl_join l
    by_cases e : c = 10
    · simp only [spl, if_pos e, List.flatten_cons, ih]; simp
    · simp only [spl, if_neg e]
      cases e2 : spl l with
      | nil => rw [e2] at ih; simp at ih; simp [← ih]
      | cons x xs => rw [e2] at ih; simp only [List.flatten_cons] at ih ⊢; rw [List.cons_append, ih]
end Go.Proofs.YtjcnnmnnbjaheaaGreatDoor.Te
/- The contracts of l6Tree and the specification's TreeFault. No statement is proved here. -/
namespace Go.Proofs.YtjcnnmnnbjaheaaGreatDoor.Te
open Go.ChangeShapes Go.WideShapes Go.ChangeAt Go.RowKit

theorem word_cell (w : World) (t : TypeId) (vs : Array Value) (k : Nat) (v : Value) (h : vs.toList[k]? = some v) : (w.alloc (.cells vs t)).cell? ⟨w.heap.size, k, none⟩ = some v := Rs.new w vs t k v h

theorem l6WordsD (w : World) : Calls Tryz.prog 57 #[] w.drew fun e w' => e = .returned (.slice (some ⟨w.heap.size, 0, none⟩) 4 4) ∧ Below w.heap.size w w' ∧ w'.cell? ⟨w.heap.size, 1, none⟩ = some (.string ⟨#[102, 105, 108, 101]⟩) ∧ w'.cell? ⟨w.heap.size, 2, none⟩ = some (.string ⟨#[114, 117, 110]⟩) ∧ w'.cell? ⟨w.heap.size, 3, none⟩ = some (.string ⟨#[116, 114, 101, 101]⟩) := by
  refine (l6Words w.drew).mono ?_
  rintro e w1 ⟨rfl, rfl⟩
  exact ⟨rfl, (below_drew (Below.refl _ _)).trans (allocBelow w.drew _), word_cell w.drew _ _ 1 _ rfl, word_cell w.drew _ _ 2 _ rfl, word_cell w.drew _ _ 3 _ rfl⟩
theorem keep3 {w w1 : World} {g o : Nat} {v : Value} (b : Below w.heap.size w w1) (hg : g < w.heap.size) (h : w.cell? ⟨g, o, none⟩ = some v) : w1.cell? ⟨g, o, none⟩ = some v := (b.cell (p := ⟨g, o, none⟩) hg).trans h

theorem takeD {P : Program} {md : Region.Mode} {ops : Array Oper} {Q : Exit → Act → World → Prop} {S : World → Prop} {i d : Nat} {oi : Oper} {v : Value} {fuel : Nat} {listed listed' : Array Bool} {a : Act} {w : World} (hi : ops[i]? = some oi)
    (hs : Region.noSelect ops = true) (hf : Region.free md ops listed i = true) (hr : (Region.ready md ops listed).contains i = true)
    (hQ : ∀ c a w, Q (.panic c) (a.put oi.dst v) w → Q (.panic c) a w) (hy : YieldsIf P ops S oi v a) (hS : S w) (hd : oi.dst = some d) (hl : listed.setIfInBounds i true = listed')
    (h : wpAnyH P md ops Q S fuel listed' (a.put (some d) v) w) : wpAnyH P md ops Q S (fuel + 1) listed a w := by
  subst hl
  exact wpAnyH_take hi hs hf hr hQ hy hS (by rw [hd]; exact h)
theorem moreS {P : Program} {md : Region.Mode} {ops : Array Oper} {Q : Exit → Act → World → Prop} {S S' : World → Prop} (hSS : ∀ w, S' w → S w) : ∀ (fuel : Nat) (listed : Array Bool) (a : Act) (w : World), wpAnyH P md ops Q S' fuel listed a w → wpAnyH P md ops Q S fuel listed a w
  | 0, _, _, _, h => h
  | fuel + 1, _, _, _, h => ⟨h.1, fun i hi => wpOp_mono (fun a' w' h' => ⟨hSS _ h'.1, moreS hSS fuel _ a' w' h'.2⟩) (h.2 i hi)⟩

end Go.Proofs.YtjcnnmnnbjaheaaGreatDoor.Te
/- The contract of the specification's TreeFault. No statement is proved here. -/
namespace Go.Proofs.YtjcnnmnnbjaheaaGreatDoor.Te
open Go.ChangeShapes Go.WideShapes Go.ChangeAt Go.RowKit

/-- The fault of a tree. -/
def tfl (l : List Ob) : Int := if trE l = 0 then tf (trB l) else trE l
theorem tfl_bad {l : List Ob} (h : ¬ trE l = 0) : tfl l = trE l := if_neg h
theorem tfl_ok {l : List Ob} (h : trE l = 0) : tfl l = tf (trB l) := if_pos h
/-- A variable that holds an entry. -/
def EV (W : World) (x0 : ByteArray) (x1 : Int) (x2 : ByteArray) (s : Value) (wx : World) : Prop := ∃ p : Nat, s = .pointer (some ⟨p, 0, none⟩) ∧ wx.cell? ⟨p, 0, none⟩ = some (.string x0) ∧ wx.cell? ⟨p, 1, none⟩ = some (.int .i64 x1) ∧ wx.cell? ⟨p, 2, none⟩ = some (.string x2) ∧ Below W.heap.size W wx

end Go.Proofs.YtjcnnmnnbjaheaaGreatDoor.Te
