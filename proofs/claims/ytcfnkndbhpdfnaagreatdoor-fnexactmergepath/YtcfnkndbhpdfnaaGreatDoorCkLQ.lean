/- Plain mathematics of chunks, and chunks in memory: their cells, who owns them, and what is left of a size. No statement is proved here. -/
import Derived.Test.YtcfnkndbhpdfnaaGreatDoorDTabQ
namespace Go.Proofs.YtcfnkndbhpdfnaaGreatDoor
open Go.ChangeShapes Go.WideShapes Go.ChangeAt Go.RowKit
abbrev Ck := Int × List ByteArray × List ByteArray × List ByteArray
def cnil : Ck := (0, [], [], [])
def kd (b o t : List ByteArray) : Int := if eqB b o = true then (if eqB b t = true then 0 else 2) else if eqB b t = true then 1 else if eqB o t = true then 3 else 4
theorem kd_same {b o t : List ByteArray} (h1 : eqB b o = true) (h2 : eqB b t = true) : kd b o t = 0 := by unfold kd; rw [if_pos h1, if_pos h2]
theorem kd_theirs {b o t : List ByteArray} (h1 : eqB b o = true) (h2 : eqB b t = false) : kd b o t = 2 := by unfold kd; rw [if_pos h1, if_neg (by rw [h2]; exact Bool.false_ne_true)]
theorem kd_ours {b o t : List ByteArray} (h1 : eqB b o = false) (h2 : eqB b t = true) : kd b o t = 1 := by unfold kd; rw [if_neg (by rw [h1]; exact Bool.false_ne_true), if_pos h2]
theorem kd_both {b o t : List ByteArray} (h1 : eqB b o = false) (h2 : eqB b t = false) (h3 : eqB o t = true) : kd b o t = 3 := by unfold kd; rw [if_neg (by rw [h1]; exact Bool.false_ne_true), if_neg (by rw [h2]; exact Bool.false_ne_true), if_pos h3]
theorem kd_clash {b o t : List ByteArray} (h1 : eqB b o = false) (h2 : eqB b t = false) (h3 : eqB o t = false) : kd b o t = 4 := by unfold kd; rw [if_neg (by rw [h1]; exact Bool.false_ne_true), if_neg (by rw [h2]; exact Bool.false_ne_true), if_neg (by rw [h3]; exact Bool.false_ne_true)]
def sd (i : Nat) (c : Ck) : List ByteArray := if i = 0 then c.2.1 else if i = 1 then c.2.2.1 else c.2.2.2
def bare (c : Ck) : Bool := decide (c.2.1.length = 0 /\ c.2.2.1.length = 0 /\ c.2.2.2.length = 0)
theorem ck_drop (l : List Ck) (k : Nat) (h : k < l.length) : l.drop k = l.getD k cnil :: l.drop (k + 1) := by
 rw [List.drop_eq_getElem_cons h]; simp [List.getD, h]
theorem ck_mem (l : List Ck) (k : Nat) (hk : k < l.length) : l.getD k cnil ∈ l := by
 rw [List.getD, List.getElem?_eq_getElem hk]; exact List.getElem_mem hk
def SSN (B : Nat) (w : World) (a : Option Addr) (c : Nat) (ss : List ByteArray) : Prop := SSB B w a ss /\ (a = none -> c = 0)
def KB (B : Nat) (w : World) (a : Option Addr) (l : List Ck) : Prop :=
 ∀ k, k < l.length -> ∃ g off a1 c1 a2 c2 a3 c3, a = some ⟨g, off, none⟩ /\ g < B /\ w.cell? ⟨g, off + k * 4, none⟩ = some (.int .i64 (l.getD k cnil).1) /\
  w.cell? ⟨g, off + k * 4 + 1, none⟩ = some (.slice a1 (l.getD k cnil).2.1.length c1) /\ w.cell? ⟨g, off + k * 4 + 2, none⟩ = some (.slice a2 (l.getD k cnil).2.2.1.length c2) /\
  w.cell? ⟨g, off + k * 4 + 3, none⟩ = some (.slice a3 (l.getD k cnil).2.2.2.length c3) /\ SSN B w a1 c1 (l.getD k cnil).2.1 /\ SSN B w a2 c2 (l.getD k cnil).2.2.1 /\ SSN B w a3 c3 (l.getD k cnil).2.2.2
theorem SSB.fr {lo hi B : Nat} {w w' : World} {a : Option Addr} {ss : List ByteArray} (h : SSB B w a ss) (hF : Fr lo hi w w') (hb : B <= lo \/ hi <= lo) : SSB B w' a ss := ⟨h.1, fun j hj => by
 obtain ⟨b, o, e', hb', hc⟩ := h.2 j hj
 exact ⟨b, o, e', hb', hF.cell hc (by omega)⟩⟩
theorem SSN.fr {lo hi B c : Nat} {w w' : World} {a : Option Addr} {ss : List ByteArray} (h : SSN B w a c ss) (hF : Fr lo hi w w') (hb : B <= lo \/ hi <= lo) : SSN B w' a c ss := ⟨h.1.fr hF hb, h.2⟩
theorem SSN.below {B c : Nat} {w w' : World} {a : Option Addr} {ss : List ByteArray} (h : SSN B w a c ss) (hb : Below w.heap.size w w') : SSN B w' a c ss := ⟨h.1.below hb, h.2⟩
theorem SSN.mono {B B' c : Nat} {w : World} {a : Option Addr} {ss : List ByteArray} (h : SSN B w a c ss) (hB : B <= B') : SSN B' w a c ss := ⟨h.1.mono hB, h.2⟩
theorem KB.fr {lo hi B : Nat} {w w' : World} {a : Option Addr} {l : List Ck} (h : KB B w a l) (hF : Fr lo hi w w') (hb : B <= lo \/ hi <= lo) : KB B w' a l := fun k hk => by
 obtain ⟨g, off, a1, c1, a2, c2, a3, c3, e, hg, h0, h1, h2, h3, s1, s2, s3⟩ := h k hk
 exact ⟨g, off, a1, c1, a2, c2, a3, c3, e, hg, hF.cell h0 (by omega), hF.cell h1 (by omega), hF.cell h2 (by omega), hF.cell h3 (by omega), s1.fr hF hb, s2.fr hF hb, s3.fr hF hb⟩
theorem KB.below {B : Nat} {w w' : World} {a : Option Addr} {l : List Ck} (h : KB B w a l) (hb : Below w.heap.size w w') : KB B w' a l := h.fr (Fr.ofBelow (lo := 0) (hi := 0) hb) (.inr (Nat.le_refl _))
def lnsAll (l : List Ck) : List (List ByteArray) := l.flatMap fun c => [c.2.1, c.2.2.1, c.2.2.2]
def FitsK (l : List Ck) : Prop := ∀ ss ∈ lnsAll l, ∀ k, k < ss.length -> (ss.getD k ByteArray.empty).size <= 9223372036854775807
theorem mem_lns {l : List Ck} {c : Ck} (h : c ∈ l) : c.2.1 ∈ lnsAll l /\ c.2.2.1 ∈ lnsAll l /\ c.2.2.2 ∈ lnsAll l := by
 unfold lnsAll
 exact ⟨List.mem_flatMap.2 ⟨c, h, by simp⟩, List.mem_flatMap.2 ⟨c, h, by simp⟩, List.mem_flatMap.2 ⟨c, h, by simp⟩⟩
theorem tot_app (a b : List ByteArray) : tot (a ++ b) = tot a + tot b := by unfold tot; rw [List.map_append, List.sum_append]
end Go.Proofs.YtcfnkndbhpdfnaaGreatDoor
namespace Go.Proofs.YtcfnkndbhpdfnaaGreatDoor
open Go.ChangeShapes Go.WideShapes Go.ChangeAt Go.RowKit
def rowK (f : Nat -> Value) (m : Nat) : List Value := (List.range m).map f
theorem rowK_length (f : Nat -> Value) (m : Nat) : (rowK f m).length = m := by simp [rowK]
theorem rowK_at (f : Nat -> Value) (m j : Nat) (h : j < m) : (rowK f m)[j]? = some (f j) := by simp [rowK, h]
theorem rowK_app (f : Nat -> Value) (m : Nat) (vs : List Value) (g : Nat -> Value) (h1 : ∀ j, j < m -> f j = g j) (h2 : ∀ j, j < vs.length -> vs[j]? = some (g (m + j))) : rowK f m ++ vs = rowK g (m + vs.length) := by
 apply List.ext_getElem?
 intro j
 by_cases hj : j < m
 ·rw [List.getElem?_append_left (by rw [rowK_length]; exact hj), rowK_at _ _ _ hj, rowK_at _ _ _ (by omega), h1 j hj]
 ·rw [List.getElem?_append_right (by rw [rowK_length]; omega), rowK_length]
  by_cases hj2 : j - m < vs.length
  ·rw [h2 _ hj2, rowK_at _ _ _ (by omega), show m + (j - m) = j by omega]
  ·rw [List.getElem?_eq_none (by omega), List.getElem?_eq_none (by rw [rowK_length]; omega)]
theorem infoChunk : (Tryz.prog.info? 162).map (fun i => (i.zero, i.size, i.bytes)) = some (some (.agg #[.int .i64 0, .slice none 0 0, .slice none 0 0, .slice none 0 0]), 4, 80) := by kernel_rfl
def lns (l : List Ck) (j : Nat) : List ByteArray := sd (j % 3) (l.getD (j / 3) cnil)
theorem lns0 (l : List Ck) (k : Nat) : lns l (k * 3) = (l.getD k cnil).2.1 := by unfold lns; rw [show k * 3 % 3 = 0 by omega, show k * 3 / 3 = k by omega]; rfl
theorem lns1 (l : List Ck) (k : Nat) : lns l (k * 3 + 1) = (l.getD k cnil).2.2.1 := by unfold lns; rw [show (k * 3 + 1) % 3 = 1 by omega, show (k * 3 + 1) / 3 = k by omega]; rfl
theorem lns2 (l : List Ck) (k : Nat) : lns l (k * 3 + 2) = (l.getD k cnil).2.2.2 := by unfold lns; rw [show (k * 3 + 2) % 3 = 2 by omega, show (k * 3 + 2) / 3 = k by omega]; rfl
def kcell (l : List Ck) (sl : Nat -> Value) (j : Nat) : Value := if j % 4 = 0 then .int .i64 (l.getD (j / 4) cnil).1 else sl (j / 4 * 3 + (j % 4 - 1))
theorem kcell0 (l : List Ck) (sl : Nat -> Value) (k : Nat) : kcell l sl (k * 4) = .int .i64 (l.getD k cnil).1 := by
 unfold kcell; rw [if_pos (by omega), show k * 4 / 4 = k by omega]
theorem kcellS (l : List Ck) (sl : Nat -> Value) (k i : Nat) (hi : i < 3) : kcell l sl (k * 4 + (i + 1)) = sl (k * 3 + i) := by
 unfold kcell; rw [if_neg (by omega), show (k * 4 + (i + 1)) / 4 = k by omega, show (k * 4 + (i + 1)) % 4 - 1 = i by omega]
theorem kcell1 (l : List Ck) (sl : Nat -> Value) (k : Nat) : kcell l sl (k * 4 + 1) = sl (k * 3) := kcellS l sl k 0 (by omega)
theorem kcell2 (l : List Ck) (sl : Nat -> Value) (k : Nat) : kcell l sl (k * 4 + 2) = sl (k * 3 + 1) := kcellS l sl k 1 (by omega)
theorem kcell3 (l : List Ck) (sl : Nat -> Value) (k : Nat) : kcell l sl (k * 4 + 3) = sl (k * 3 + 2) := kcellS l sl k 2 (by omega)
structure KO (base : Nat) (w : World) (v : Value) (l : List Ck) (sl : Nat -> Value) : Prop where
 row : w.ownsRow base 162 4 v l.length (rowK (kcell l sl) (l.length * 4))
 each : ∀ j, j < l.length * 3 -> w.ownsRow base 9 1 (sl j) (lns l j).length ((lns l j).map Value.string)
 apart : ∀ i j, i < j -> j < l.length * 3 -> ∀ b, (sl i).ownBlock = some b -> (sl j).ownBlock = some b -> False
 off : ∀ j, j < l.length * 3 -> ∀ b, v.ownBlock = some b -> (sl j).ownBlock = some b -> False
theorem shapeK {w : World} {base : Nat} {e : TypeId} {s : Nat} {v : Value} {n : Nat} {xs : List Value} (h : w.ownsRow base e s v n xs) : ∃ a c, v = .slice a n c := by
 rcases h.2 with ⟨rfl, rfl⟩ | ⟨g, cap, cur, rfl, _⟩
 ·exact ⟨_, _, rfl⟩
 ·exact ⟨_, _, rfl⟩
theorem KO.fr {lo hi base : Nat} {w w' : World} {v : Value} {l : List Ck} {sl : Nat -> Value} (h : KO base w v l sl) (hF : Fr lo hi w w') (hv : ∀ j, v.ownBlock = some j -> j < lo \/ hi <= j) (hb : ∀ k, k < l.length * 3 -> ∀ j, (sl k).ownBlock = some j -> j < lo \/ hi <= j) : KO base w' v l sl :=
 ⟨hF.own h.row hv, fun k hk => hF.own (h.each k hk) (hb k hk), h.apart, h.off⟩
theorem KO.below {base : Nat} {w w' : World} {v : Value} {l : List Ck} {sl : Nat -> Value} (h : KO base w v l sl) (hb : Below w.heap.size w w') : KO base w' v l sl :=
 h.fr (Fr.ofBelow (lo := 0) (hi := 0) hb) (fun _ _ => .inr (Nat.zero_le _)) (fun _ _ _ _ => .inr (Nat.zero_le _))
theorem ownMonoK {w : World} {base b : Nat} {e : TypeId} {s : Nat} {v : Value} {n : Nat} {xs : List Value} (h : w.ownsRow base e s v n xs) (hb : b <= base) : w.ownsRow b e s v n xs := by
 refine ⟨h.1, ?_⟩
 rcases h.2 with h' | ⟨g, cap, cur, h1, h2, h3⟩
 ·exact .inl h'
 ·exact .inr ⟨g, cap, cur, h1, by omega, h3⟩
theorem KO.mono {base b : Nat} {w : World} {v : Value} {l : List Ck} {sl : Nat -> Value} (h : KO base w v l sl) (hb : b <= base) : KO b w v l sl :=
 ⟨ownMonoK h.row hb, fun k hk => ownMonoK (h.each k hk) hb, h.apart, h.off⟩
theorem KO.nil (base : Nat) (w : World) (sl : Nat -> Value) : KO base w (.slice none 0 0) [] sl :=
 ⟨⟨rfl, .inl ⟨rfl, rfl⟩⟩, fun _ h => absurd h (Nat.not_lt_zero _), fun _ _ _ h => absurd h (Nat.not_lt_zero _), fun _ h => absurd h (Nat.not_lt_zero _)⟩
theorem ownSSN {w : World} {base : Nat} {v : Value} {ss : List ByteArray} (h : w.ownsRow base 9 1 v ss.length (ss.map Value.string)) (hz : ∀ k, k < ss.length -> (ss.getD k ByteArray.empty).size <= 9223372036854775807) : ∃ a c, v = .slice a ss.length c /\ SSN w.heap.size w a c ss := by
 obtain ⟨a, c, e⟩ := shapeS h
 refine ⟨a, c, e, ownSS (by rw [<- e]; exact h) hz, fun ha => ?_⟩
 rcases h.2 with ⟨h', _⟩ | ⟨g, cap, cur, h', _⟩
 ·rw [e] at h'; simp only [Value.slice.injEq] at h'; exact h'.2.2
 ·rw [e, ha] at h'; simp only [Value.slice.injEq] at h'; exact absurd h'.1 (by simp)
theorem KO.read {base : Nat} {w : World} {a : Option Addr} {c : Nat} {l : List Ck} {sl : Nat -> Value} (h : KO base w (.slice a l.length c) l sl) (hf : FitsK l) : KB w.heap.size w a l := by
 intro k hk
 obtain ⟨m1, m2, m3⟩ := mem_lns (ck_mem l k hk)
 have e1 := h.each (k * 3) (by omega)
 have e2 := h.each (k * 3 + 1) (by omega)
 have e3 := h.each (k * 3 + 2) (by omega)
 rw [lns0] at e1
 rw [lns1] at e2
 rw [lns2] at e3
 obtain ⟨a1, c1, q1, s1⟩ := ownSSN e1 (hf _ m1)
 obtain ⟨a2, c2, q2, s2⟩ := ownSSN e2 (hf _ m2)
 obtain ⟨a3, c3, q3, s3⟩ := ownSSN e3 (hf _ m3)
 rcases h.row.2 with ⟨h', h0⟩ | ⟨g, cap, cur, h', _, hh, _⟩
 ·omega
 ·simp only [Value.slice.injEq] at h'
  obtain ⟨rfl, _, rfl⟩ := h'
  have hc := h.row.cellAt
  refine ⟨g, 0, a1, c1, a2, c2, a3, c3, rfl, (Array.getElem?_eq_some_iff.1 hh).1, ?_, ?_, ?_, ?_, s1, s2, s3⟩
  ·rw [Nat.zero_add, hc (k * 4) (by omega), rowK_at _ _ _ (by omega), kcell0]
  ·rw [Nat.zero_add, hc (k * 4 + 1) (by omega), rowK_at _ _ _ (by omega), kcell1, q1]
  ·rw [Nat.zero_add, hc (k * 4 + 2) (by omega), rowK_at _ _ _ (by omega), kcell2, q2]
  ·rw [Nat.zero_add, hc (k * 4 + 3) (by omega), rowK_at _ _ _ (by omega), kcell3, q3]
def sl3 (sl : Nat -> Value) (k : Nat) (v1 v2 v3 : Value) (i : Nat) : Value := if i = k * 3 then v1 else if i = k * 3 + 1 then v2 else if i = k * 3 + 2 then v3 else sl i
theorem sl3_0 (sl : Nat -> Value) (k : Nat) (v1 v2 v3 : Value) : sl3 sl k v1 v2 v3 (k * 3) = v1 := if_pos rfl
theorem sl3_1 (sl : Nat -> Value) (k : Nat) (v1 v2 v3 : Value) : sl3 sl k v1 v2 v3 (k * 3 + 1) = v2 := by unfold sl3; rw [if_neg (by omega), if_pos rfl]
theorem sl3_2 (sl : Nat -> Value) (k : Nat) (v1 v2 v3 : Value) : sl3 sl k v1 v2 v3 (k * 3 + 2) = v3 := by unfold sl3; rw [if_neg (by omega), if_neg (by omega), if_pos rfl]
theorem sl3_old (sl : Nat -> Value) (k : Nat) (v1 v2 v3 : Value) (i : Nat) (h : i < k * 3) : sl3 sl k v1 v2 v3 i = sl i := by unfold sl3; rw [if_neg (by omega), if_neg (by omega), if_neg (by omega)]
end Go.Proofs.YtcfnkndbhpdfnaaGreatDoor
