/- The contracts of the laws' helpers over lists of chunks that are owned (markChunkS, heldChunkS) and over ChunksResult. No statement is proved here. -/
import Derived.Test.YtlgeoaepjghdhaaRows
import Derived.Test.YtlgeoaepjghdhaaLemQ
import Derived.Test.YtlgeoaepjghdhaaMarksQ
import Derived.Test.YtlgeoaepjghdhaaDTabQ
import Derived.Test.YtlgeoaepjghdhaaInQ
import Derived.Test.YtlgeoaepjghdhaaCkLQ
import Derived.Test.YtlgeoaepjghdhaaCkNQ
import Derived.Test.YtlgeoaepjghdhaaCkTQ
import Derived.WalkKit
import Derived.ProofKit
import Derived.Below
import Derived.WalkSpells
namespace Go.Proofs.Ytlgeoaepjghdhaa
open Go.ChangeShapes Go.WideShapes Go.ChangeAt Go.RowKit

/-- How many marks the first k chunks take. -/
def mk1 (c : Ck) : Nat := 1 + c.2.1.length + c.2.2.1.length + c.2.2.2.length
def mkK (l : List Ck) (k : Nat) : Nat := ((l.take k).map mk1).sum
theorem mkK_succ (l : List Ck) (k : Nat) (h : k < l.length) : mkK l (k + 1) = mkK l k + mk1 (l.getD k cnil) := by
  unfold mkK
  rw [List.take_succ_eq_append_getElem h, List.map_append, List.sum_append]
  simp [List.getD, h]
theorem mkK_le (l : List Ck) (k : Nat) : mkK l k ≤ mkK l l.length := by
  unfold mkK
  rw [List.take_length]
  conv => rhs; rw [← List.take_append_drop k l, List.map_append, List.sum_append]
  omega
theorem mkK_full (l : List Ck) : mkK l l.length = l.length + allL (lnsAll l) := by
  unfold mkK
  rw [List.take_length]
  induction l with
  | nil => rfl
  | cons c t ih =>
    have a1 : allL (lnsAll (c :: t)) = c.2.1.length + (c.2.2.1.length + (c.2.2.2.length + allL (lnsAll t))) := by rw [lnsAll_cons]; simp [allL]
    have e : mk1 c = 1 + c.2.1.length + c.2.2.1.length + c.2.2.2.length := rfl
    simp only [List.map_cons, List.sum_cons, List.length_cons, a1]
    omega
/-- The chunk that the marks from v on make. -/
def mkC (v n1 n2 n3 : Nat) : Ck := ((v : Int), marks (v + 1) n1, marks (v + 1 + n1) n2, marks (v + 1 + n1 + n2) n3)
def mkX (l : List Ck) (m k : Nat) : Ck := mkC (m + mkK l k) (l.getD k cnil).2.1.length (l.getD k cnil).2.2.1.length (l.getD k cnil).2.2.2.length
/-- The first k chunks are marked. -/
def mixX (l : List Ck) (m k : Nat) : List Ck := (List.range l.length).map fun i => if i < k then mkX l m i else l.getD i cnil
theorem mixX_length (l : List Ck) (m k : Nat) : (mixX l m k).length = l.length := by simp [mixX]
theorem mixX_at (l : List Ck) (m k i : Nat) (h : i < l.length) : (mixX l m k).getD i cnil = if i < k then mkX l m i else l.getD i cnil := by
  simp [mixX, List.getD, h]
theorem mixX_zero (l : List Ck) (m : Nat) : mixX l m 0 = l := by
  apply List.ext_getElem?
  intro i
  by_cases h : i < l.length
  · simp [mixX, h, List.getD]
  · rw [List.getElem?_eq_none (by rw [mixX_length]; omega), List.getElem?_eq_none (by omega)]
theorem mixX_succ (l : List Ck) (m k : Nat) (h : k < l.length) : mixX l m (k + 1) = (mixX l m k).set k (mkX l m k) := by
  apply List.ext_getElem?
  intro i
  by_cases hi : i < l.length
  · by_cases e : i = k
    · subst e
      rw [List.getElem?_set_self (by rw [mixX_length]; exact hi)]
      simp [mixX, hi]
    · rw [List.getElem?_set_ne (by omega)]
      simp only [mixX, List.getElem?_map, List.getElem?_range hi, Option.map_some]
      congr 1
      by_cases hk : i < k
      · rw [if_pos hk, if_pos (by omega)]
      · rw [if_neg hk, if_neg (by omega)]
  · rw [List.getElem?_eq_none (by rw [mixX_length]; omega), List.getElem?_eq_none (by rw [List.length_set, mixX_length]; omega)]
theorem setC_same (l : List Ck) (k : Nat) (X : Ck) (h : k < l.length) : (l.set k X).getD k cnil = X := by simp [List.getD, h]
theorem setC_other (l : List Ck) (k i : Nat) (X : Ck) (h : ¬ i = k) : (l.set k X).getD i cnil = l.getD i cnil := by
  rw [List.getD, List.getD, List.getElem?_set_ne (by omega)]
theorem getC_set (l : List Ck) (k : Nat) (h : k < l.length) : l.set k (l.getD k cnil) = l := by
  apply List.ext_getElem?
  intro i
  by_cases e : i = k
  · subst e
    rw [List.getElem?_set_self h, List.getD, List.getElem?_eq_getElem h]; rfl
  · rw [List.getElem?_set_ne (by omega)]
/-- One list of a chunk, another in its place. -/
def putL (i : Nat) (c : Ck) (S : List ByteArray) : Ck := if i = 0 then (c.1, S, c.2.2.1, c.2.2.2) else if i = 1 then (c.1, c.2.1, S, c.2.2.2) else (c.1, c.2.1, c.2.2.1, S)
theorem sd_put (i j : Nat) (hi : i < 3) (hj : j < 3) (c : Ck) (S : List ByteArray) : sd j (putL i c S) = if j = i then S else sd j c := by
  have h1 : i = 0 ∨ i = 1 ∨ i = 2 := by omega
  have h2 : j = 0 ∨ j = 1 ∨ j = 2 := by omega
  rcases h1 with rfl | rfl | rfl <;> rcases h2 with rfl | rfl | rfl <;> rfl
theorem put_kind (i : Nat) (c : Ck) (S : List ByteArray) : (putL i c S).1 = c.1 := by unfold putL; split; rfl; split <;> rfl
theorem lns_set (L : List Ck) (k j : Nat) (C : Ck) (hk : k < L.length) : lns (L.set k C) j = if j / 3 = k then sd (j % 3) C else lns L j := by
  unfold lns
  by_cases e : j / 3 = k
  · rw [if_pos e, e, setC_same L k C hk]
  · rw [if_neg e, setC_other L k _ C e]
theorem kcell_put (L : List Ck) (sl : Nat → Value) (k i : Nat) (C : Ck) (S : List ByteArray) (hk : k < L.length) : kcell (L.set k (putL i C S)) sl = kcell (L.set k C) sl := by
  funext j
  unfold kcell
  by_cases e : j / 4 = k
  · rw [e, setC_same L k _ hk, setC_same L k _ hk, put_kind]
  · rw [setC_other L k _ _ e, setC_other L k _ _ e]
theorem kcell_kind (L : List Ck) (sl : Nat → Value) (k n : Nat) (x : Int) (hk : k < L.length) :
    (rowK (kcell L sl) n).set (k * 4) (.int .i64 x) = rowK (kcell (L.set k (x, (L.getD k cnil).2)) sl) n := by
  rw [rowK_set]
  apply rowK_congr
  intro j _
  show (if j = k * 4 then _ else _) = _
  by_cases h0 : j = k * 4
  · subst h0
    rw [if_pos rfl, kcell0, setC_same L k _ hk]
  · rw [if_neg h0]
    unfold kcell
    by_cases e : j / 4 = k
    · rw [if_neg (by omega), if_neg (by omega)]
    · rw [setC_other L k _ _ e]
/-- The kind of chunk k is set. -/
theorem KO.kind {base g n c : Nat} {w : World} {L : List Ck} {sl : Nat → Value} (h : KO base w (.slice (some ⟨g, 0, none⟩) n c) L sl) (hn : n = L.length) (k : Nat) (hk : k < L.length) (x : Int) :
    KO base (w.setCell ⟨g, k * 4, none⟩ (.int .i64 x)) (.slice (some ⟨g, 0, none⟩) n c) (L.set k (x, (L.getD k cnil).2)) sl := by
  subst hn
  have hg : ∀ j, j < L.length * 3 → ∀ b, (sl j).ownBlock = some b → b ≠ g := fun j hj b hb e => h.off j hj g rfl (e ▸ hb)
  have s0 := h.row.stored (k * 4) (.int .i64 x)
  refine ⟨?_, fun j hj => ?_, fun i j hij hj => ?_, fun j hj => ?_⟩
  · have r := s0.1
    rw [kcell_kind L sl k _ x hk] at r
    rw [List.length_set]
    exact r
  · rw [List.length_set] at hj
    have e : lns (L.set k (x, (L.getD k cnil).2)) j = lns L j := by
      rw [lns_set L k j _ hk]
      by_cases e : j / 3 = k
      · rw [if_pos e]; unfold lns; rw [e]; rfl
      · rw [if_neg e]
    rw [e]
    exact (h.each j hj).kept s0.2 (blockCases _ _ fun b c1 c2 => by
      have e2 : g = b := by simpa using c2
      exact hg j hj b c1 e2.symm)
  · rw [List.length_set] at hj; exact h.apart i j hij hj
  · rw [List.length_set] at hj; exact h.off j hj
/-- List i of chunk k is written. -/
theorem KO.list {base g n c : Nat} {w w2 : World} {L : List Ck} {sl : Nat → Value} {C : Ck} {k : Nat} (h : KO base w (.slice (some ⟨g, 0, none⟩) n c) (L.set k C) sl) (hn : n = L.length) (hk : k < L.length) (i : Nat) (hi : i < 3) (S : List ByteArray)
    (o2 : w2.ownsRow base 9 1 (sl (k * 3 + i)) S.length (S.map Value.string)) (g2 : w.grownBy w2 (sl (k * 3 + i)).ownBlock) :
    KO base w2 (.slice (some ⟨g, 0, none⟩) n c) (L.set k (putL i C S)) sl := by
  subst hn
  have hLl : (L.set k C).length = L.length := List.length_set
  refine ⟨?_, fun j hj => ?_, fun a b hij hj => ?_, fun j hj => ?_⟩
  · rw [kcell_put L sl k i C S hk, List.length_set]
    have r := h.row
    rw [hLl] at r
    exact r.kept g2 (blockCases _ _ fun b c1 c2 => h.off (k * 3 + i) (by rw [hLl]; omega) b c1 c2)
  · rw [List.length_set] at hj
    rw [lns_set L k j _ hk]
    by_cases e : j / 3 = k
    · rw [if_pos e, sd_put i (j % 3) hi (by omega) C S]
      by_cases e' : j % 3 = i
      · rw [if_pos e', show j = k * 3 + i by omega]; exact o2
      · rw [if_neg e']
        have o := h.each j (by rw [hLl]; exact hj)
        rw [lns_set L k j _ hk, if_pos e] at o
        exact o.kept g2 (blockCases _ _ fun b c1 c2 => by
          rcases Nat.lt_or_ge j (k * 3 + i) with h' | h'
          · exact h.apart j (k * 3 + i) h' (by rw [hLl]; omega) b c1 c2
          · exact h.apart (k * 3 + i) j (by omega) (by rw [hLl]; exact hj) b c2 c1)
    · rw [if_neg e]
      have o := h.each j (by rw [hLl]; exact hj)
      rw [lns_set L k j _ hk, if_neg e] at o
      exact o.kept g2 (blockCases _ _ fun b c1 c2 => by
        rcases Nat.lt_or_ge j (k * 3 + i) with h' | h'
        · exact h.apart j (k * 3 + i) h' (by rw [hLl]; omega) b c1 c2
        · exact h.apart (k * 3 + i) j (by omega) (by rw [hLl]; exact hj) b c2 c1)
  · rw [List.length_set] at hj; exact h.apart a b hij (by rw [hLl]; exact hj)
  · rw [List.length_set] at hj; exact h.off j (by rw [hLl]; exact hj)
/-- The cells of chunk k. -/
theorem KO.cells {base g n c : Nat} {w : World} {L : List Ck} {sl : Nat → Value} (h : KO base w (.slice (some ⟨g, 0, none⟩) n c) L sl) (k : Nat) (hk : k < L.length) :
    (∃ u, w.cell? ⟨g, k * 4, none⟩ = some u) ∧ w.cell? ⟨g, k * 4 + 1, none⟩ = some (sl (k * 3)) ∧ w.cell? ⟨g, k * 4 + 2, none⟩ = some (sl (k * 3 + 1)) ∧ w.cell? ⟨g, k * 4 + 3, none⟩ = some (sl (k * 3 + 2)) ∧ w.frozen? ⟨g, k * 4, none⟩ = false := by
  obtain ⟨a', c', e⟩ := shapeK h.row
  simp only [Value.slice.injEq] at e
  obtain ⟨rfl, rfl, rfl⟩ := e
  have hc := h.row.cellAt
  refine ⟨⟨_, by rw [hc (k * 4) (by omega), rowK_at _ _ _ (by omega)]⟩, ?_, ?_, ?_, h.row.frozenAt (k * 4)⟩
  · rw [hc (k * 4 + 1) (by omega), rowK_at _ _ _ (by omega), kcell1]
  · rw [hc (k * 4 + 2) (by omega), rowK_at _ _ _ (by omega), kcell2]
  · rw [hc (k * 4 + 3) (by omega), rowK_at _ _ _ (by omega), kcell3]

set_option maxRecDepth 20000 in
set_option maxHeartbeats 4000000 in
theorem markChunkS (base hi g c m : Nat) (l : List Ck) (sl : Nat → Value) (w : World) (h1 : 1 ≤ m) (h2 : m + mkK l l.length ≤ 4194304) (h : KO base w (.slice (some ⟨g, 0, none⟩) l.length c) l sl)
    (hg : g < hi) (hb : ∀ k, k < l.length * 3 → ∀ b, (sl k).ownBlock = some b → b < hi) :
    Calls Try.prog 46 #[.slice (some ⟨g, 0, none⟩) l.length c, .int .i64 m] w fun e w' => e = .returned (.int .i64 ((m + mkK l l.length : Nat) : Int)) ∧ KO base w' (.slice (some ⟨g, 0, none⟩) l.length c) (mixX l m l.length) sl ∧ Fr base hi w w' := by
  have hgb := (h.row.lt g rfl).1
  have hln : l.length ≤ 4194304 := by have := mkK_full l; omega
  go_enter Try.func46, Try.ntmps46
  go_wp2
  go_loopw [1, 5] (fun t i wr => ∃ k : Nat, k ≤ l.length ∧ i = .int .i64 k ∧ t = .int .i64 ((m + mkK l k : Nat) : Int) ∧ KO base wr (.slice (some ⟨g, 0, none⟩) l.length c) (mixX l m k) sl ∧ Fr base hi w wr) (fun _ i _ => l.length - (intOf i).toNat)
  case atStart => exact ⟨0, Nat.zero_le _, rfl, by simp [mkK], by rw [mixX_zero]; exact h, Fr.refl _ _ _⟩
  case round =>
    obtain ⟨k, hk, rfl, rfl, hO, hF⟩ := hrel
    have hle := mkK_le l k
    have hml := mixX_length l m k
    by_cases hlt : k < l.length
    · have q : (k : Int) < (l.length : Int) := by omega
      have hsu := mkK_succ l k hlt
      have hle2 := mkK_le l (k + 1)
      have hat := mixX_at l m k k hlt
      rw [if_neg (by omega)] at hat
      have hset := mixX_succ l m k hlt
      have hX : mkX l m k = mkC (m + mkK l k) (l.getD k cnil).2.1.length (l.getD k cnil).2.2.1.length (l.getD k cnil).2.2.2.length := rfl
      unfold mk1 at hsu
      obtain ⟨C, hCe⟩ : ∃ C, l.getD k cnil = C := ⟨_, rfl⟩
      obtain ⟨x0, x1, x2, x3⟩ := C
      rw [hCe] at hat hX hsu
      simp only [] at hX hsu
      obtain ⟨V, hV⟩ : ∃ V : Nat, m + mkK l k = V := ⟨_, rfl⟩
      rw [hV] at hX
      rw [hX] at hset
      obtain ⟨L, hL⟩ : ∃ L, mixX l m k = L := ⟨_, rfl⟩
      rw [hL] at hset hO hml hat
      have hkL : k < L.length := by omega
      obtain ⟨VI, hVI⟩ : ∃ VI : Int, (V : Int) = VI := ⟨_, rfl⟩
      -- the kind
      obtain ⟨⟨u0, d0⟩, d1, d2, d3, f0⟩ := hO.cells k hkL
      have hbl : ∀ j, j < l.length * 3 → ∀ b, (sl j).ownBlock = some b → base ≤ b := fun j hj b hbb => ((hO.each j (by omega)).lt b hbb).1
      obtain ⟨W1, hW1⟩ : ∃ W, wr.setCell ⟨g, k * 4, none⟩ (.int .i64 VI) = W := ⟨_, rfl⟩
      have K1 := hO.kind hml.symm k hkL (V : Int)
      rw [hat, hVI, hW1] at K1
      simp only [] at K1
      have F1 : Fr base hi w W1 := by rw [← hW1]; exact hF.trans (Fr.ofGrown (grownSet wr g (k * 4) (.int .i64 VI)) (fun j hj => by cases hj; exact ⟨hgb, hg⟩))
      have n1 := K1.each (k * 3) (by rw [List.length_set]; omega)
      have n2 := K1.each (k * 3 + 1) (by rw [List.length_set]; omega)
      have n3 := K1.each (k * 3 + 2) (by rw [List.length_set]; omega)
      rw [lns0, setC_same L k _ hkL] at n1
      rw [lns1, setC_same L k _ hkL] at n2
      rw [lns2, setC_same L k _ hkL] at n3
      simp only [] at n1 n2 n3
      obtain ⟨a1, c1, e1⟩ := shapeS n1
      obtain ⟨a2, c2, e2⟩ := shapeS n2
      obtain ⟨a3, c3, e3⟩ := shapeS n3
      obtain ⟨_, g1, g2, g3, _⟩ := K1.cells k (by rw [List.length_set]; exact hkL)
      rw [e1] at d1 g1 n1
      rw [e2] at d2 g2 n2
      rw [e3] at d3 g3 n3
      have hM1 := markStringS base a1 x1.length c1 (V + 1) _ W1 (by omega) (by omega) n1
      rw [show ((V + 1 : Nat) : Int) = VI + 1 by omega] at hM1
      obtain ⟨T1, hT1⟩ : ∃ T : Int, ((V + 1 + x1.length : Nat) : Int) = T := ⟨_, rfl⟩
      obtain ⟨T2, hT2⟩ : ∃ T : Int, ((V + 1 + x1.length + x2.length : Nat) : Int) = T := ⟨_, rfl⟩
      obtain ⟨T3, hT3⟩ : ∃ T : Int, ((V + 1 + x1.length + x2.length + x3.length : Nat) : Int) = T := ⟨_, rfl⟩
      have HT1 : Hid (((V + 1 + x1.length : Nat) : Int) = T1) := hT1
      have HT2 : Hid (((V + 1 + x1.length + x2.length : Nat) : Int) = T2) := hT2
      have HT3 : Hid (((V + 1 + x1.length + x2.length + x3.length : Nat) : Int) = T3) := hT3
      have HVI : Hid ((V : Int) = VI) := hVI
      rw [hT1] at hM1
      have hVp : 0 ≤ VI := by omega
      have hVl : VI < 16777216 := by omega
      have HK : Hid (m + mkK l (k + 1) = V + 1 + x1.length + x2.length + x3.length) := by show _ = _; omega
      have HS : Hid (mixX l m (k + 1) = L.set k (mkC V x1.length x2.length x3.length)) := hset
      have HW1 : Hid (wr.setCell ⟨g, k * 4, none⟩ (.int .i64 VI) = W1) := hW1
      have hVb : V + 1 + x1.length + x2.length + x3.length ≤ 4194304 := by omega
      rw [hV, hVI]
      clear hO hF hat hX hset hsu hle hle2 hV hL hCe n1 n2 n3 hW1 hT1 hT2 hT3 hVI
      go_wp2_with fail
      rw [HW1.out]
      refine hM1.mono ?_; rintro e w2 ⟨rfl, o2, q2⟩
      have K2 := K1.list (w2 := w2) hml.symm hkL 0 (by omega) (marks (V + 1) x1.length) (by rw [marks_length]; show w2.ownsRow _ _ _ (sl (k * 3)) _ _; rw [e1]; exact o2) (by show W1.grownBy w2 (sl (k * 3)).ownBlock; rw [e1]; exact q2)
      have F2 : Fr base hi w w2 := F1.trans (Fr.ofGrown q2 (fun j hj => by rw [← e1] at hj; exact ⟨hbl _ (by omega) j hj, hb _ (by omega) j hj⟩))
      obtain ⟨_, g1, g2, g3, _⟩ := K2.cells k (by rw [List.length_set]; exact hkL)
      have n2 := K2.each (k * 3 + 1) (by rw [List.length_set]; omega)
      rw [lns1, setC_same L k _ hkL] at n2
      replace n2 : w2.ownsRow base 9 1 (sl (k * 3 + 1)) x2.length (x2.map Value.string) := n2
      rw [e2] at g2 n2
      have hM2 := markStringS base a2 x2.length c2 (V + 1 + x1.length) _ w2 (by omega) (by omega) n2
      rw [HT1.out, HT2.out] at hM2
      clear o2 q2 hM1 K1 F1 d0 d1 d2 d3 f0 HW1 n2
      go_wp2_with fail
      refine hM2.mono ?_; rintro e w3 ⟨rfl, o2, q2⟩
      have K3 := K2.list (w2 := w3) hml.symm hkL 1 (by omega) (marks (V + 1 + x1.length) x2.length) (by rw [marks_length, e2]; exact o2) (by rw [e2]; exact q2)
      have F3 : Fr base hi w w3 := F2.trans (Fr.ofGrown q2 (fun j hj => by rw [← e2] at hj; exact ⟨hbl _ (by omega) j hj, hb _ (by omega) j hj⟩))
      clear g1 g2 g3
      obtain ⟨_, g1, g2, g3, _⟩ := K3.cells k (by rw [List.length_set]; exact hkL)
      have n3 := K3.each (k * 3 + 2) (by rw [List.length_set]; omega)
      rw [lns2, setC_same L k _ hkL] at n3
      replace n3 : w3.ownsRow base 9 1 (sl (k * 3 + 2)) x3.length (x3.map Value.string) := n3
      rw [e3] at g3 n3
      have hM3 := markStringS base a3 x3.length c3 (V + 1 + x1.length + x2.length) _ w3 (by omega) (by omega) n3
      rw [HT2.out, HT3.out] at hM3
      clear o2 q2 hM2 K2 F2 n3
      go_wp2_with fail
      refine hM3.mono ?_; rintro e w4 ⟨rfl, o2, q2⟩
      have K4 := K3.list (w2 := w4) hml.symm hkL 2 (by omega) (marks (V + 1 + x1.length + x2.length) x3.length) (by rw [marks_length, e3]; exact o2) (by rw [e3]; exact q2)
      have F4 : Fr base hi w w4 := F3.trans (Fr.ofGrown q2 (fun j hj => by rw [← e3] at hj; exact ⟨hbl _ (by omega) j hj, hb _ (by omega) j hj⟩))
      have K5 : Hid (KO base w4 (.slice (some ⟨g, 0, none⟩) l.length c) (mixX l m (k + 1)) sl) := by
        show KO _ _ _ _ _
        rw [HS.out]
        have e : mkC V x1.length x2.length x3.length = putL 2 (putL 1 (putL 0 (VI, x1, x2, x3) (marks (V + 1) x1.length)) (marks (V + 1 + x1.length) x2.length)) (marks (V + 1 + x1.length + x2.length) x3.length) := by unfold mkC; rw [HVI.out]; rfl
        rw [e]; exact K4
      clear o2 q2 hM3 K3 F3 K4 g1 g2 g3
      go_wp2
      go_roundw
      case rel => exact ⟨k + 1, by omega, by first | rfl | go_num, by rw [HK.out, HT3.out], K5.out, F4⟩
      case measure => first | (simp [intOf]; omega) | simp [intOf]
    · have q : ¬ (k : Int) < (l.length : Int) := by omega
      obtain rfl : k = l.length := by omega
      go_wp2
      go_ret
      exact ⟨rfl, hO, hF⟩
end Go.Proofs.Ytlgeoaepjghdhaa
