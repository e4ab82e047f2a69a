/- Hunks that are drawn: rows of hunks of which one is turned. No statement is proved here. -/
import Derived.Test.YtepbkaidlffaiabRows
import Derived.Test.YtepbkaidlffaiabLemQ
import Derived.Test.YtepbkaidlffaiabStrsQ
import Derived.Test.YtepbkaidlffaiabDTabQ
import Derived.Test.YtepbkaidlffaiabOwnQ
import Derived.Test.YtepbkaidlffaiabFrQ
import Derived.Test.YtepbkaidlffaiabComQ
import Derived.Test.YtepbkaidlffaiabHkTQ
import Derived.Test.YtepbkaidlffaiabHkLQ
import Derived.Test.YtepbkaidlffaiabHfCQ
import Derived.Test.YtepbkaidlffaiabHnLQ
import Derived.Test.YtepbkaidlffaiabHrRQ
import Derived.Test.YtepbkaidlffaiabApCQ
import Derived.Test.YtepbkaidlffaiabWvCQ
import Derived.Test.YtepbkaidlffaiabRvLQ
import Derived.Test.YtepbkaidlffaiabHoMQ
import Derived.Test.YtepbkaidlffaiabGdMQ
import Derived.WalkKit
import Derived.ProofKit
import Derived.Below
import Derived.Carry
namespace Go.Proofs.Ytepbkaidlffaiab
open Go.ChangeShapes Go.WideShapes Go.ChangeAt Go.RowKit

theorem setB0 (l : List ByteArray) (z : ByteArray) (h : 0 < l.length) : (l.set 0 z).getD 0 ByteArray.empty = z := by
  cases l with
  | nil => simp at h
  | cons a t => rfl
theorem setBj (l : List ByteArray) (z : ByteArray) (j : Nat) (h : ¬ j = 0) : (l.set 0 z).getD j ByteArray.empty = l.getD j ByteArray.empty := by
  cases l with
  | nil => rfl
  | cons a t =>
    cases j with
    | zero => exact absurd rfl h
    | succ j => rfl
/-- A row of hunks that can be read. -/
structure RowH (w : World) (g : Nat) (L : List Hk) (sl : Nat → Value) : Prop where
  cells : ∀ j, j < L.length * 3 → w.cell? ⟨g, j, none⟩ = some (hcell L sl j)
  lt : g < w.heap.size
  each : ∀ k, k < L.length → ∃ ak ck, sl k = .slice ak (L.getD k (0, 0, [])).2.2.length ck ∧ SS w ak (L.getD k (0, 0, [])).2.2
theorem RowH.hb {w : World} {g : Nat} {L : List Hk} {sl : Nat → Value} (h : RowH w g L sl) : HB w.heap.size w (some ⟨g, 0, none⟩) L := by
  intro k hk
  obtain ⟨ak, ck, e, hS⟩ := h.each k hk
  refine ⟨g, 0, ak, ck, rfl, h.lt, ?_, ?_, ?_, hS⟩
  · rw [Nat.zero_add, h.cells (k * 3) (by omega), hcell0]
  · rw [Nat.zero_add, h.cells (k * 3 + 1) (by omega), hcell1]
  · rw [Nat.zero_add, h.cells (k * 3 + 2) (by omega), hcell2, e]
theorem HO.rowH {base g c : Nat} {w : World} {L : List Hk} {sl : Nat → Value} (h : HO base w (.slice (some ⟨g, 0, none⟩) L.length c) L sl) (hf : Fits L) : RowH w g L sl := by
  refine ⟨fun j hj => ?_, (h.row.lt g rfl).2, fun k hk => ?_⟩
  · rw [h.row.cellAt j (by omega), rowF_at _ _ _ hj]
  · obtain ⟨ak, ck, e⟩ := shapeS (h.each k hk)
    exact ⟨ak, ck, e, ownSS (by rw [← e]; exact h.each k hk) (hf _ (getD_mem L k hk))⟩
theorem hcell_num (L : List Hk) (sl : Nat → Value) (i n : Nat) (x : Int) (hi : i < L.length) : (rowF (hcell L sl) n).set (i * 3) (.int .i64 x) = rowF (hcell (L.set i (x, (L.getD i (0, 0, [])).2)) sl) n := by
  rw [rowF_set]
  refine rowF_congr fun j _ => ?_
  by_cases h0 : j = i * 3
  · subst h0
    rw [if_pos rfl, hcell0, setD_same L i _ hi]
  · rw [if_neg h0]
    unfold hcell
    by_cases e : j / 3 = i
    · have h3 : ¬ j % 3 = 0 := by omega
      rw [e, setD_same L i _ hi, if_neg h3, if_neg h3]
    · rw [setD_other L i (j / 3) _ e]
theorem hcell_num1 (L : List Hk) (sl : Nat → Value) (i n : Nat) (x : Int) (hi : i < L.length) : (rowF (hcell L sl) n).set (i * 3 + 1) (.int .i64 x) = rowF (hcell (L.set i ((L.getD i (0, 0, [])).1, x, (L.getD i (0, 0, [])).2.2)) sl) n := by
  rw [rowF_set]
  refine rowF_congr fun j _ => ?_
  by_cases h0 : j = i * 3 + 1
  · subst h0
    rw [if_pos rfl, hcell1, setD_same L i _ hi]
  · rw [if_neg h0]
    unfold hcell
    by_cases e : j / 3 = i
    · rw [e, setD_same L i _ hi]
      by_cases h1 : j % 3 = 0
      · rw [if_pos h1, if_pos h1]
      · rw [if_neg h1, if_neg h1, if_neg (by omega), if_neg (by omega)]
    · rw [setD_other L i (j / 3) _ e]
theorem hcell_lines (L : List Hk) (sl : Nat → Value) (i n : Nat) (ss : List ByteArray) (hi : i < L.length) : rowF (hcell (L.set i ((L.getD i (0, 0, [])).1, (L.getD i (0, 0, [])).2.1, ss)) sl) n = rowF (hcell L sl) n := by
  refine rowF_congr fun j _ => ?_
  unfold hcell
  by_cases e : j / 3 = i
  · rw [e, setD_same L i _ hi]
  · rw [setD_other L i (j / 3) _ e]
theorem hcell_tail (L : List Hk) (sl : Nat → Value) (i n : Nat) (ss : List ByteArray) (u : Value) (hi : i < L.length) : (rowF (hcell L sl) n).set (i * 3 + 2) u = rowF (hcell (L.set i ((L.getD i (0, 0, [])).1, (L.getD i (0, 0, [])).2.1, ss)) (fun k => if k = i then u else sl k)) n := by
  rw [rowF_set]
  refine rowF_congr fun j _ => ?_
  by_cases h0 : j = i * 3 + 2
  · subst h0
    rw [if_pos rfl, hcell2, if_pos rfl]
  · rw [if_neg h0]
    unfold hcell
    by_cases e : j / 3 = i
    · rw [e, setD_same L i _ hi]
      by_cases h1 : j % 3 = 0
      · rw [if_pos h1, if_pos h1]
      · rw [if_neg h1, if_neg h1, if_pos (by omega), if_pos (by omega)]
    · rw [setD_other L i (j / 3) _ e]
      simp only [e, if_false]
theorem HO.apartG {base g c : Nat} {w : World} {L : List Hk} {sl : Nat → Value} (h : HO base w (.slice (some ⟨g, 0, none⟩) L.length c) L sl) {k : Nat} (hk : k < L.length) : ∀ b, (sl k).ownBlock = some b → some g = some b → False := fun b hb e => by
  simp only [Option.some.injEq] at e
  subst e
  exact h.off k hk g rfl hb
/-- A cell of the row is stored: what the hunks are then. -/
theorem HO.stored {base g c : Nat} {w : World} {L L' : List Hk} {sl sl' : Nat → Value} (h : HO base w (.slice (some ⟨g, 0, none⟩) L.length c) L sl) (o : Nat) (v : Value) (hl : L'.length = L.length)
    (hr : (rowF (hcell L sl) (L.length * 3)).set o v = rowF (hcell L' sl') (L.length * 3))
    (he : ∀ k, k < L.length → ∃ ak ck, sl' k = .slice ak (L'.getD k (0, 0, [])).2.2.length ck ∧ SS (w.setCell ⟨g, o, none⟩ v) ak (L'.getD k (0, 0, [])).2.2) : RowH (w.setCell ⟨g, o, none⟩ v) g L' sl' := by
  have s0 := h.row.stored o v
  have r := s0.1
  rw [hr] at r
  refine ⟨fun j hj => ?_, by simpa using (h.row.lt g rfl).2, fun k hk => he k (by omega)⟩
  rw [r.cellAt j (by omega), rowF_at _ _ _ (by omega)]
theorem HO.eachSet {base g c : Nat} {w : World} {L : List Hk} {sl : Nat → Value} (h : HO base w (.slice (some ⟨g, 0, none⟩) L.length c) L sl) (hf : Fits L) (o : Nat) (v : Value) {k : Nat} (hk : k < L.length) : ∃ ak ck, sl k = .slice ak (L.getD k (0, 0, [])).2.2.length ck ∧ SS (w.setCell ⟨g, o, none⟩ v) ak (L.getD k (0, 0, [])).2.2 := by
  have s0 := h.row.stored o v
  have o3 := (h.each k hk).kept s0.2 (blockCases _ _ fun b c1 c2 => h.apartG hk b c1 c2)
  obtain ⟨ak, ck, e⟩ := shapeS o3
  exact ⟨ak, ck, e, ownSS (by rw [← e]; exact o3) (hf _ (getD_mem L k hk))⟩
theorem HO.num0 {base g c : Nat} {w : World} {L : List Hk} {sl : Nat → Value} (h : HO base w (.slice (some ⟨g, 0, none⟩) L.length c) L sl) (hf : Fits L) {i : Nat} (hi : i < L.length) (x : Int) : RowH (w.setCell ⟨g, i * 3, none⟩ (.int .i64 x)) g (L.set i (x, (L.getD i (0, 0, [])).2)) sl := by
  refine h.stored _ _ (List.length_set ..) (hcell_num L sl i _ x hi) fun k hk => ?_
  obtain ⟨ak, ck, e, hS⟩ := h.eachSet hf (i * 3) (.int .i64 x) hk
  by_cases ek : k = i
  · subst ek; rw [setD_same L k _ hi]; exact ⟨ak, ck, e, hS⟩
  · rw [setD_other L i k _ ek]; exact ⟨ak, ck, e, hS⟩
theorem HO.num1 {base g c : Nat} {w : World} {L : List Hk} {sl : Nat → Value} (h : HO base w (.slice (some ⟨g, 0, none⟩) L.length c) L sl) (hf : Fits L) {i : Nat} (hi : i < L.length) (x : Int) : RowH (w.setCell ⟨g, i * 3 + 1, none⟩ (.int .i64 x)) g (L.set i ((L.getD i (0, 0, [])).1, x, (L.getD i (0, 0, [])).2.2)) sl := by
  refine h.stored _ _ (List.length_set ..) (hcell_num1 L sl i _ x hi) fun k hk => ?_
  obtain ⟨ak, ck, e, hS⟩ := h.eachSet hf (i * 3 + 1) (.int .i64 x) hk
  by_cases ek : k = i
  · subst ek; rw [setD_same L k _ hi]; exact ⟨ak, ck, e, hS⟩
  · rw [setD_other L i k _ ek]; exact ⟨ak, ck, e, hS⟩
/-- The lines of hunk i begin one later. -/
theorem HO.tail {base g c ci gi : Nat} {w : World} {L : List Hk} {sl : Nat → Value} (h : HO base w (.slice (some ⟨g, 0, none⟩) L.length c) L sl) (hf : Fits L) {i : Nat} (hi : i < L.length) (hs : sl i = .slice (some ⟨gi, 0, none⟩) (L.getD i (0, 0, [])).2.2.length ci) (hp : 0 < (L.getD i (0, 0, [])).2.2.length) (hc : (L.getD i (0, 0, [])).2.2.length ≤ ci)
    (A : Option Addr) (hA : (if ci = 1 then some ⟨gi, 0, none⟩ else Option.map (fun x => x.add 1) (some (⟨gi, 0, none⟩ : Addr))) = A) (cc : Nat) :
    RowH (w.setCell ⟨g, i * 3 + 2, none⟩ (.slice A ((L.getD i (0, 0, [])).2.2.length - 1) cc)) g (L.set i ((L.getD i (0, 0, [])).1, (L.getD i (0, 0, [])).2.1, (L.getD i (0, 0, [])).2.2.drop 1)) (fun k => if k = i then .slice A ((L.getD i (0, 0, [])).2.2.length - 1) cc else sl k) := by
  refine h.stored _ _ (List.length_set ..) (hcell_tail L sl i _ _ _ hi) fun k hk => ?_
  obtain ⟨ak, ck, e, hS⟩ := h.eachSet hf (i * 3 + 2) (.slice A ((L.getD i (0, 0, [])).2.2.length - 1) cc) hk
  by_cases ek : k = i
  · subst ek
    rw [if_pos rfl, setD_same L k _ hi]
    refine ⟨A, cc, by simp, ?_⟩
    rw [hs] at e
    simp only [Value.slice.injEq] at e
    obtain ⟨e1, _, e3⟩ := e
    subst e1 e3
    have := segSSB hS.toB 1 (L.getD k (0, 0, [])).2.2.length ci (by omega) (Nat.le_refl _) hc
    rw [hA, List.take_of_length_le (by simp)] at this
    exact this
  · rw [if_neg ek, setD_other L i k _ ek]; exact ⟨ak, ck, e, hS⟩
/-- The first line of hunk i is another. -/
theorem HO.line0 {base g c ci gi : Nat} {w : World} {L : List Hk} {sl : Nat → Value} (h : HO base w (.slice (some ⟨g, 0, none⟩) L.length c) L sl) (hf : Fits L) {i : Nat} (hi : i < L.length) (hs : sl i = .slice (some ⟨gi, 0, none⟩) (L.getD i (0, 0, [])).2.2.length ci) (z : ByteArray) (hz : z.size ≤ 9223372036854775807) :
    RowH (w.setCell ⟨gi, 0, none⟩ (.string z)) g (L.set i ((L.getD i (0, 0, [])).1, (L.getD i (0, 0, [])).2.1, (L.getD i (0, 0, [])).2.2.set 0 z)) sl := by
  have hi' := h.each i hi
  rw [hs] at hi'
  have s0 := hi'.stored 0 (.string z)
  have hne : ∀ b, (some g = some b) → some gi = some b → False := fun b e1 e2 => by
    simp only [Option.some.injEq] at e1 e2
    exact h.off i hi g rfl (by rw [hs]; show some gi = some g; rw [e2, ← e1])
  have r := h.row.kept s0.2 (blockCases _ _ fun b c1 c2 => hne b (by rw [← c1]; rfl) c2)
  refine ⟨fun j hj => ?_, by simpa using (h.row.lt g rfl).2, fun k hk => ?_⟩
  · rw [List.length_set] at hj
    rw [r.cellAt j (by omega), rowF_at _ _ _ hj]
    have := hcell_lines L sl i (L.length * 3) ((L.getD i (0, 0, [])).2.2.set 0 z) hi
    have e1 := rowF_at (hcell (L.set i ((L.getD i (0, 0, [])).1, (L.getD i (0, 0, [])).2.1, (L.getD i (0, 0, [])).2.2.set 0 z)) sl) (L.length * 3) j hj
    rw [this, rowF_at _ _ _ hj] at e1
    exact e1
  · rw [List.length_set] at hk
    by_cases ek : k = i
    · subst ek
      rw [setD_same L k _ hi]
      have q := s0.1
      have e5 : ((L.getD k (0, 0, [])).2.2.map Value.string).set 0 (.string z) = ((L.getD k (0, 0, [])).2.2.set 0 z).map Value.string := by rw [List.map_set]
      rw [e5] at q
      refine ⟨some ⟨gi, 0, none⟩, ci, by rw [hs]; simp, ?_⟩
      refine ownSS (cap := ci) (base := base) (by simpa using q) fun j hj => ?_
      simp only [List.length_set] at hj
      by_cases e0 : j = 0
      · subst e0
        have := setB0 (L.getD k (0, 0, [])).2.2 z hj
        rw [this]; exact hz
      · have := setBj (L.getD k (0, 0, [])).2.2 z j e0
        rw [this]; exact hf _ (getD_mem L k hi) j hj
    · rw [setD_other L i k _ ek]
      have o3 := (h.each k hk).kept s0.2 (blockCases _ _ fun b c1 c2 => by
        have c2' : (sl i).ownBlock = some b := by rw [hs, ← c2]; rfl
        rcases Nat.lt_or_ge k i with h' | h'
        · exact h.apart k i h' hi b c1 c2'
        · exact h.apart i k (by omega) hk b c2' c1)
      obtain ⟨ak, ck, e⟩ := shapeS o3
      exact ⟨ak, ck, e, ownSS (by rw [← e]; exact o3) (hf _ (getD_mem L k hk))⟩
/-- Hunk i once more at the end. -/
theorem HO.again {base g c : Nat} {w w' : World} {L : List Hk} {sl : Nat → Value} {v' : Value} (h : HO base w (.slice (some ⟨g, 0, none⟩) L.length c) L sl) (hf : Fits L) {i : Nat} (hi : i < L.length)
    (r : w'.ownsRow base 79 3 v' (L.length + 1) (rowF (hcell L sl) (L.length * 3) ++ [.int .i64 (L.getD i (0, 0, [])).1, .int .i64 (L.getD i (0, 0, [])).2.1, sl i])) (hg : w.grownBy w' (some g)) :
    ∃ g' c', v' = .slice (some ⟨g', 0, none⟩) (L ++ [L.getD i (0, 0, [])]).length c' ∧ RowH w' g' (L ++ [L.getD i (0, 0, [])]) (fun k => if k = L.length then sl i else sl k) := by
  rw [hcell_snoc] at r
  have hE : ∀ k, k < L.length → ∃ ak ck, sl k = .slice ak (L.getD k (0, 0, [])).2.2.length ck ∧ SS w' ak (L.getD k (0, 0, [])).2.2 := fun k hk => by
    have o3 := (h.each k hk).kept hg (blockCases _ _ fun b c1 c2 => h.apartG hk b c1 c2)
    obtain ⟨ak, ck, e⟩ := shapeS o3
    exact ⟨ak, ck, e, ownSS (by rw [← e]; exact o3) (hf _ (getD_mem L k hk))⟩
  rcases r.2 with ⟨_, h0⟩ | ⟨g', c', cur, e', _⟩
  · omega
  · subst e'
    refine ⟨g', c', by simp, fun j hj => ?_, (r.lt g' rfl).2, fun k hk => ?_⟩
    · simp only [List.length_append, List.length_cons, List.length_nil] at hj
      rw [r.cellAt j (by omega), rowF_at _ _ _ (by omega)]
    · simp only [List.length_append, List.length_cons, List.length_nil] at hk
      by_cases e : k = L.length
      · subst e
        rw [if_pos rfl, show (L ++ [L.getD i (0, 0, [])]).getD L.length (0, 0, []) = L.getD i (0, 0, []) by simp [List.getD]]
        exact hE i hi
      · rw [if_neg e, show (L ++ [L.getD i (0, 0, [])]).getD k (0, 0, []) = L.getD k (0, 0, []) by rw [List.getD, List.getD, List.getElem?_append_left (by omega)]; rfl]
        exact hE k (by omega)

/-! Bounds. -/
theorem tot_bd {ss : List ByteArray} {Z : Nat} (h : ∀ x ∈ ss, x.size ≤ Z) : tot ss ≤ (ss.length * Z : Nat) := by
  induction ss with
  | nil => simp [tot]
  | cons y ys ih =>
    have e : tot (y :: ys) = (y.size : Int) + tot ys := by simp [tot]
    have h1 := h y (List.mem_cons_self)
    have h2 := ih (fun x hx => h x (List.mem_cons_of_mem _ hx))
    rw [e, List.length_cons, Nat.add_mul]; omega
def okS (h : Hk) : Prop := h.2.2.length ≤ 3000 ∧ ∀ s ∈ h.2.2, s.size ≤ 12
def Bd (n : Nat) (l : List Hk) : Prop := l.length ≤ n ∧ ∀ h ∈ l, okS h
theorem okS.tot {h : Hk} (k : okS h) : tot h.2.2 ≤ 36000 := by
  have := tot_bd (ss := h.2.2) (Z := 12) (fun x hx => k.2 x hx)
  have h2 : h.2.2.length * 12 ≤ 3000 * 12 := Nat.mul_le_mul_right _ k.1
  omega
structure Fine (l : List Hk) : Prop where
  len : l.length ≤ 1000
  short : Shortly l
  size : ∀ h ∈ l, ∀ s ∈ h.2.2, s.size ≤ 1048576
  tk : totK l l.length ≤ 400000
theorem Bd.fine {n : Nat} {l : List Hk} (h : Bd n l) (hn : n ≤ 11) : Fine l := by
  refine ⟨by have := h.1; omega, fun x hx => by have := (h.2 x hx).1; omega, fun x hx s hs => by have := (h.2 x hx).2 s hs; omega, ?_⟩
  have key : ∀ k, k ≤ l.length → totK l k ≤ k * 36000 := by
    intro k
    induction k with
    | zero => intro _; exact Int.le_refl _
    | succ k ih =>
      intro hk
      have I := ih (by omega)
      have e : totK l (k + 1) = totK l k + tot (l.getD k (0, 0, [])).2.2 := rfl
      have := (h.2 (l.getD k (0, 0, [])) (getD_mem l k (by omega))).tot
      rw [e]; omega
  have := key l.length (Nat.le_refl _)
  have := h.1
  omega
theorem Bd.set {n : Nat} {l : List Hk} (h : Bd n l) (i : Nat) {X : Hk} (hX : okS X) : Bd n (l.set i X) := by
  refine ⟨by rw [List.length_set]; exact h.1, fun x hx => ?_⟩
  rcases List.mem_or_eq_of_mem_set hx with hx | rfl
  · exact h.2 x hx
  · exact hX
theorem Bd.snoc {n : Nat} {l : List Hk} (h : Bd n l) {X : Hk} (hX : okS X) : Bd (n + 1) (l ++ [X]) := by
  refine ⟨by rw [List.length_append]; have := h.1; simp; omega, fun x hx => ?_⟩
  rcases List.mem_append.1 hx with hx | hx
  · exact h.2 x hx
  · rw [List.mem_singleton.1 hx]; exact hX
theorem Fine.fits {l : List Hk} (h : Fine l) : Fits l := fun x hx k hk => by
  rw [getD_at _ k hk]
  have := h.size x hx _ (List.getElem_mem hk)
  omega
theorem fine_zero (n : Nat) (hn : n ≤ 1000) : Fine (List.replicate n (0, 0, [])) := by
  refine ⟨by simpa using hn, fun x hx => ?_, fun x hx s hs => ?_, ?_⟩
  · rw [List.eq_of_mem_replicate hx]; simp
  · rw [List.eq_of_mem_replicate hx] at hs; cases hs
  · have key : ∀ (l : List Hk), (∀ k, (l.getD k (0, 0, [])).2.2 = []) → ∀ k, totK l k = 0 := by
      intro l hl k
      induction k with
      | zero => rfl
      | succ k ih =>
        have e : totK l (k + 1) = totK l k + tot (l.getD k (0, 0, [])).2.2 := rfl
        rw [e, ih, hl k]; rfl
    rw [key _ (fun k => by rw [List.getD, List.getElem?_replicate]; split <;> rfl)]
    omega
theorem hks_bd {xs ys : List ByteArray} (hx : xs.length ≤ 8) (hy : ys.length ≤ 11) (sx : ∀ x ∈ xs, x.size ≤ 9) (sy : ∀ x ∈ ys, x.size ≤ 9) (cx : Int) : Bd 9 (hks xs ys cx (changes xs ys)) := by
  have h1 : (changes xs ys).length ≤ com xs ys + 1 := by
    have := chg_length (ends xs ys) 0 0
    unfold ends at this
    rw [List.length_append, mat_length xs ys _ 0 0 (Nat.le_refl _), comAt_zero] at this
    exact this
  have h4 := comAt_le xs ys 0 0
  rw [comAt_zero] at h4
  have h2 := hks_length xs ys cx _ (changes xs ys) (Nat.le_refl _)
  refine ⟨by omega, fun h hh => ?_⟩
  obtain ⟨i, j, rfl⟩ := hks_mem xs ys cx _ (changes xs ys) (Nat.le_refl _) h hh
  have hcl : (((changes xs ys).drop i).take j).length ≤ 9 := by rw [List.length_take, List.length_drop]; omega
  have h5 := hunkL_length (((changes_cw xs ys).drop i).take j) (by omega) (by omega) cx
  refine ⟨?_, fun s hs => ?_⟩
  · show (hunkL xs ys cx _).length ≤ _
    omega
  · have := hunkL_small sx sy cx _ s hs
    omega
/-- Turned round, hunks without a fault are as long. -/
theorem turn_tot {ss : List ByteArray} (h : ss.all okH = true) : tot (ss.map turnL) = tot ss := by
  induction ss with
  | nil => rfl
  | cons s t ih =>
    rw [List.all_cons, Bool.and_eq_true] at h
    have hz := okH_size h.1
    have e1 : tot (s :: t) = (s.size : Int) + tot t := by simp [tot]
    have e2 : tot (turnL s :: t.map turnL) = ((turnL s).size : Int) + tot (t.map turnL) := by simp [tot]
    have e3 : (turnL s).size = s.size := by rw [turnL_mk, mkL_size, tail_size]; omega
    rw [List.map_cons, e1, e2, ih h.2, e3]
theorem hf_oks {l : List Hk} (h : hf l = 0) : ∀ x ∈ l, x.2.2.all okH = true := by
  intro x hx
  obtain ⟨k, hk, e⟩ := List.getElem_of_mem hx
  have := ap_nums h hk
  rw [show l.getD k (0, 0, []) = x by simp [List.getD, hk, e]] at this
  exact this.2.2.2.2
theorem Fine.rev {l : List Hk} (h : Fine l) (h0 : hf l = 0) : Fine (l.map revH) := by
  have ha := hf_oks h0
  refine ⟨by rw [List.length_map]; exact h.len, fun y hy => ?_, fun y hy s hs => ?_, ?_⟩
  · obtain ⟨x, hx, rfl⟩ := List.mem_map.1 hy
    show (x.2.2.map turnL).length ≤ 1048576
    rw [List.length_map]; exact h.short x hx
  · obtain ⟨x, hx, rfl⟩ := List.mem_map.1 hy
    obtain ⟨t, ht, rfl⟩ := List.mem_map.1 hs
    have hz := okH_size (List.all_eq_true.1 (ha x hx) t ht)
    have e3 : (turnL t).size = t.size := by rw [turnL_mk, mkL_size, tail_size]; omega
    rw [e3]; exact h.size x hx t ht
  · have key : ∀ k, k ≤ l.length → totK (l.map revH) k = totK l k := by
      intro k
      induction k with
      | zero => intro _; rfl
      | succ k ih =>
        intro hk
        have e : totK (l.map revH) (k + 1) = totK (l.map revH) k + tot ((l.map revH).getD k (0, 0, [])).2.2 := rfl
        have e' : totK l (k + 1) = totK l k + tot (l.getD k (0, 0, [])).2.2 := rfl
        have e2 : (l.map revH).getD k (0, 0, []) = revH (l.getD k (0, 0, [])) := by simp [List.getD, show k < l.length by omega]
        rw [e, e', ih (by omega), e2]
        show _ + tot ((l.getD k (0, 0, [])).2.2.map turnL) = _
        rw [turn_tot (ha _ (getD_mem l k (by omega)))]
    rw [List.length_map, key l.length (Nat.le_refl _)]
    exact h.tk
/-- No hunk of changes is without a line. -/
theorem hks_pos {xs ys : List ByteArray} {cx : Int} : ∀ (f : Nat) (cs : List Chg) (i j : Int), cs.length ≤ f → WK xs ys i j cs → ∀ h ∈ hks xs ys cx cs, 0 < h.2.2.length := by
  intro f
  induction f with
  | zero => intro cs i j hc _ h hh; rw [hks_nil xs ys cx (by omega)] at hh; cases hh
  | succ f ih =>
    intro cs i j hc hw h hh
    by_cases hl : cs.length = 0
    · rw [hks_nil xs ys cx hl] at hh; cases hh
    have hp : 0 < cs.length := by omega
    obtain ⟨t1, t2⟩ := tog_bd cx cs hp
    rw [hks_step xs ys cx hp] at hh
    rcases List.mem_cons.1 hh with rfl | hh
    · have e4 : (cs.take (tog cx cs)).length = tog cx cs := by rw [List.length_take]; omega
      have hany := hlK_any (a := hunkA cx (cs.take (tog cx cs))) (cs := cs.take (tog cx cs)) (i := i) (j := j) (by rw [getD_take0 _ _ (by omega)]; exact hw.each 0 hp) hw.hi.1 hw.hj.1 (tog cx cs) (by omega)
      show 0 < (hunkL xs ys cx (cs.take (tog cx cs))).length
      unfold hunkL
      rw [e4, List.length_append]
      cases e : hlK xs ys (hunkA cx (cs.take (tog cx cs))) (cs.take (tog cx cs)) (tog cx cs) with
      | nil => rw [e] at hany; cases hany
      | cons x r => rw [List.length_cons]; omega
    · exact ih (cs.drop (tog cx cs)) _ _ (by rw [List.length_drop]; omega) (hw.later t2) h hh
end Go.Proofs.Ytepbkaidlffaiab
/- A variable that is laid ahead of a call. No statement is proved here. -/
namespace Go.Proofs.Ytepbkaidlffaiab.RjF
open Go.ChangeShapes Go.WideShapes Go.ChangeAt Go.RowKit

theorem twoKeep {u : World} {p b o : Nat} {v0 v1 x : Value} (hc : u.cell? ⟨b, o, none⟩ = some x) (h : b < p) : ((u.setCell ⟨p, 0, none⟩ v0).setCell ⟨p, 1, none⟩ v1).cell? ⟨b, o, none⟩ = some x := by
  rw [World.cell?_setCell_other _ _ _ _ (by intro c; simp only [Addr.mk.injEq] at c; omega), World.cell?_setCell_other _ _ _ _ (by intro c; simp only [Addr.mk.injEq] at c; omega)]
  exact hc
theorem newRes {w w1 : World} {u v : Value} {t : TypeId} (b : Below ((w.alloc (.cells #[u, v] t)).drew).heap.size ((w.alloc (.cells #[u, v] t)).drew) w1) : w1.cell? ⟨w.heap.size, 0, none⟩ = some u ∧ w1.cell? ⟨w.heap.size, 1, none⟩ = some v ∧ w1.frozen? ⟨w.heap.size, 0, none⟩ = false ∧ w1.frozen? ⟨w.heap.size, 1, none⟩ = false := by
  have h : Res2 ((w.alloc (.cells #[u, v] t)).drew) w.heap.size u v := by
    have := Res2.new w u v t
    exact ⟨this.c0, this.c1, this.f0, this.f1⟩
  have := h.below (by show w.heap.size < (w.alloc (.cells #[u, v] t)).heap.size; simp) b
  exact ⟨this.c0, this.c1, this.f0, this.f1⟩
theorem belNew {w w1 : World} {u v : Value} {t : TypeId} (b : Below ((w.alloc (.cells #[u, v] t)).drew).heap.size ((w.alloc (.cells #[u, v] t)).drew) w1) : Below w.heap.size w w1 ∧ w.heap.size < w1.heap.size :=
  ⟨(below_drew (allocBelow w _)).trans (b.mono (by show w.heap.size ≤ (w.alloc (.cells #[u, v] t)).heap.size; simp)), Nat.lt_of_lt_of_le (by show w.heap.size < (w.alloc (.cells #[u, v] t)).heap.size; simp) b.size⟩
end Go.Proofs.Ytepbkaidlffaiab.RjF
