/- Hunks turned round, and a row of hunks that grows: small laws. No statement is proved here. -/
import Derived.Test.YtnkbjbbaoddfkaaGreatDoorRows
import Derived.Test.YtnkbjbbaoddfkaaGreatDoorLemQ
import Derived.Test.YtnkbjbbaoddfkaaGreatDoorLFLemQ
import Derived.Test.YtnkbjbbaoddfkaaGreatDoorDTabQ
import Derived.Test.YtnkbjbbaoddfkaaGreatDoorHkLQ
import Derived.Test.YtnkbjbbaoddfkaaGreatDoorHkCQ
import Derived.Test.YtnkbjbbaoddfkaaGreatDoorHkTQ
import Derived.Test.YtnkbjbbaoddfkaaGreatDoorHfCQ
import Derived.Test.YtnkbjbbaoddfkaaGreatDoorHnLQ
import Derived.Test.YtnkbjbbaoddfkaaGreatDoorHrRQ
import Derived.WalkKit
import Derived.ProofKit
import Derived.Below
import Derived.WalkSpells
import Derived.Maps.AppendAt
import Derived.Deep.RegionLaw
import Derived.Test.YtnkbjbbaoddfkaaGreatDoorComQ
namespace Go.Proofs.YtnkbjbbaoddfkaaGreatDoor
open Go.ChangeShapes Go.WideShapes Go.ChangeAt Go.RowKit

/-- The mark that a mark is turned to. -/
def turnM (b : Int) : UInt8 := if b = 45 then 43 else if b = 43 then 45 else 32
def turnI (b : Int) : Int := if b = 45 then 43 else if b = 43 then 45 else b
/-- A line with its mark turned. -/
def turnL (s : ByteArray) : ByteArray := (⟨#[turnM (mark0 s)]⟩ : ByteArray) ++ s.extract 1 s.size
theorem turnL_size (s : ByteArray) : (turnL s).size ≤ s.size + 1 := by
  unfold turnL
  rw [ByteArray.size_append, tail_size]
  have : (⟨#[turnM (mark0 s)]⟩ : ByteArray).size = 1 := rfl
  omega
def revH (h : Hk) : Hk := (h.2.1, h.1, h.2.2.map turnL)
theorem revH_take (l : List Hk) (k : Nat) (h : k < l.length) : (l.take (k + 1)).map revH = (l.take k).map revH ++ [revH (l.getD k (0, 0, []))] := by
  rw [List.take_succ_eq_append_getElem h, List.map_append]
  simp [List.getD, h]
theorem turnL_take (ss : List ByteArray) (k : Nat) (h : k < ss.length) : ((ss.take (k + 1)).map turnL).map Value.string = ((ss.take k).map turnL).map Value.string ++ [.string (turnL (ss.getD k ByteArray.empty))] := by
  rw [List.take_succ_eq_append_getElem h, List.map_append, List.map_append, getD_at ss k h]; rfl

theorem hcell_snoc (L : List Hk) (h : Hk) (sl : Nat → Value) (u : Value) :
    rowF (hcell L sl) (L.length * 3) ++ [.int .i64 h.1, .int .i64 h.2.1, u] = rowF (hcell (L ++ [h]) (fun i => if i = L.length then u else sl i)) ((L.length + 1) * 3) := by
  apply List.ext_getElem?
  intro j
  by_cases hj : j < L.length * 3
  · rw [List.getElem?_append_left (by rw [rowF_length]; exact hj), rowF_at _ _ _ hj, rowF_at _ _ _ (by omega)]
    unfold hcell
    have hd : j / 3 < L.length := by omega
    have e1 : (L ++ [h]).getD (j / 3) (0, 0, []) = L.getD (j / 3) (0, 0, []) := by rw [List.getD, List.getD, List.getElem?_append_left hd]
    have e2 : ¬ j / 3 = L.length := by omega
    rw [e1]
    simp only [e2, if_false]
  · rw [List.getElem?_append_right (by rw [rowF_length]; omega), rowF_length]
    have e0 : (L ++ [h]).getD L.length (0, 0, []) = h := by simp [List.getD]
    by_cases h3 : j < (L.length + 1) * 3
    · rw [rowF_at _ _ _ h3]
      have hc : j = L.length * 3 ∨ j = L.length * 3 + 1 ∨ j = L.length * 3 + 2 := by omega
      rcases hc with rfl | rfl | rfl
      · rw [hcell0, e0, Nat.sub_self]; rfl
      · rw [hcell1, e0, Nat.add_sub_cancel_left]; rfl
      · rw [hcell2, Nat.add_sub_cancel_left, if_pos rfl]; rfl
    · rw [List.getElem?_eq_none (by simp; omega), List.getElem?_eq_none (by rw [rowF_length]; omega)]
/-- A row of hunks behind an append of one more, whose lines lie in memory of their own. -/
theorem HO.push {base : Nat} {wx w6 : World} {o : Obj} {v v' u : Value} {L : List Hk} {h : Hk} {sl : Nat → Value} (hh : HO base wx v L sl) (hu : wx.ownsRow base 9 1 u h.2.2.length (h.2.2.map Value.string))
    (a1 : ∀ b, u.ownBlock = some b → v.ownBlock = some b → False) (a2 : ∀ k, k < L.length → ∀ b, u.ownBlock = some b → (sl k).ownBlock = some b → False)
    (p6 : w6.ownsRow base 35 3 v' (L.length + 1) (rowF (hcell L sl) (L.length * 3) ++ [.int .i64 h.1, .int .i64 h.2.1, u])) (g6 : (wx.alloc o).grownBy w6 v.ownBlock)
    (k6 : v'.ownBlock = v.ownBlock ∨ v'.ownBlock = some (wx.alloc o).heap.size) :
    HO base w6 v' (L ++ [h]) (fun i => if i = L.length then u else sl i) := by
  have hs : (wx.alloc o).heap.size = wx.heap.size + 1 := by simp
  rw [hs] at k6
  have fin : ∀ {t : Value} {n : Nat} {xs : List Value}, wx.ownsRow base 9 1 t n xs → (∀ b, v.ownBlock = some b → t.ownBlock = some b → False) → (w6.ownsRow base 9 1 t n xs ∧ ∀ b, v'.ownBlock = some b → t.ownBlock = some b → False) := by
    intro t n xs ho ha
    refine ⟨(ho.alloc o).kept g6 (blockCases _ _ fun b c1 c2 => ha b c2 c1), fun b c1 c2 => ?_⟩
    rcases k6 with k | k
    · exact ha b (k ▸ c1) c2
    · rw [k] at c1
      have := (ho.lt b c2).2
      simp only [Option.some.injEq] at c1
      omega
  refine ⟨?_, fun k hk => ?_, fun j k hjk hk b c1 c2 => ?_, fun k hk b c1 c2 => ?_⟩
  · rw [hcell_snoc] at p6
    simpa using p6
  · simp only [List.length_append, List.length_cons, List.length_nil] at hk
    by_cases e : k = L.length
    · subst e
      rw [if_pos rfl]
      have e0 : (L ++ [h]).getD L.length (0, 0, []) = h := by simp [List.getD]
      rw [e0]
      exact (fin hu (fun b c1 c2 => a1 b c2 c1)).1
    · rw [if_neg e]
      have hk' : k < L.length := by omega
      have e1 : (L ++ [h]).getD k (0, 0, []) = L.getD k (0, 0, []) := by rw [List.getD, List.getD, List.getElem?_append_left hk']
      rw [e1]
      exact (fin (hh.each k hk') (hh.off k hk')).1
  · simp only [List.length_append, List.length_cons, List.length_nil] at hk
    have hj : ¬ j = L.length := by omega
    rw [if_neg hj] at c1
    by_cases e : k = L.length
    · rw [if_pos e] at c2
      exact a2 j (by omega) b c2 c1
    · rw [if_neg e] at c2
      exact hh.apart j k hjk (by omega) b c1 c2
  · simp only [List.length_append, List.length_cons, List.length_nil] at hk
    by_cases e : k = L.length
    · rw [if_pos e] at c2
      exact (fin hu (fun b c1 c2 => a1 b c2 c1)).2 b c1 c2
    · rw [if_neg e] at c2
      have hk' : k < L.length := by omega
      exact (fin (hh.each k hk') (hh.off k hk')).2 b c1 c2
theorem step_append_at {P : Program} {ops : Array Oper} {o : Oper} {a : Act} {w : World} {K : Act → World → Prop} {Q : Exit → Act → World → Prop} {E : Prop}
    (hg : o.guard = none) (s x : Operand) (t : TypeId) (hop : o.op = Op.call { callee := Callee.builtin Builtin.append, args := #[s, x], argTypes := #[t, t] })
    (base : Nat) (e : TypeId) (i : TypeInfo) (z : Value) (size bytes : Nat) (ht : P.underlying t = some (.slice e)) (hi : P.info? e = some i) (hz : i.zero = some z)
    (hsize : i.size = size) (hby : i.bytes = bytes) (hzs : z.cells.size = size) (hsz : 0 < size)
    (v : Value) (n : Nat) (xs : List Value) (hs : a.eval s = v) (hown : w.ownsRow base e size v n xs)
    (ad : Addr) (m c : Nat) (news : List Value) (hx : a.eval x = .slice (some ad) m c) (hl : news.length = m * size) (hnews : ∀ j u, news[j]? = some u → w.cell? (ad.add j) = some u) (h1 : ∀ u ∈ news, u.oneCell' = true)
    (h63 : n + m ≤ maxLen) (hbytes : (n + m) * bytes ≤ 140737488355328) (hbase : base ≤ w.heap.size)
    (hK : ∀ v' w', w'.ownsRow base e size v' (n + m) (xs ++ news) → w.grownBy w' v.ownBlock → (v'.ownBlock = v.ownBlock ∨ v'.ownBlock = some w.heap.size) → K (a.put o.dst v') w') :
    if Region.wanted o (yielded ops a.tmps) = true then Oper.wp P o a w K Q else E := by
  have hw : Region.wanted o (yielded ops a.tmps) = true := by simp [Region.wanted, hg]
  rw [if_pos hw]
  obtain ⟨v', w', hr, h2, h3, h4, h5⟩ := run_append_own_at (P := P) w base t o.type e i z size bytes ht hi hz hsize hby hzs hsz v n xs hown ad m c news hl hnews h1 h63 hbytes hbase
  unfold Oper.wp
  simp only [execOp, hop, resolve, invoke, builtin, Sem.run_bind, Sem.run_pure, Result.andThen_ok, List.map_toArray, List.map_cons, List.map_nil, hs, hx, hr]
  exact hK v' w' h2 h3 h5
end Go.Proofs.YtnkbjbbaoddfkaaGreatDoor
/- Plain mathematics of changes in hunks. No statement is proved here. -/
namespace Go.Proofs.YtnkbjbbaoddfkaaGreatDoor
open Go.RowKit

/-- Changes in order, from i and j on, within n and m lines. -/
def wfC (n m : Int) : Int → Int → List Chg → Prop
  | _, _, [] => True
  | i, j, c :: t => (i ≤ c.1 ∧ 0 ≤ c.2.1 ∧ c.1 + c.2.1 ≤ n ∧ j ≤ c.2.2.1 ∧ 0 ≤ c.2.2.2 ∧ c.2.2.1 + c.2.2.2 ≤ m) ∧ wfC n m (c.1 + c.2.1) (c.2.2.1 + c.2.2.2) t
theorem wfC_mono {n m i j i' j' : Int} {l : List Chg} (h : wfC n m i' j' l) (h1 : i ≤ i') (h2 : j ≤ j') : wfC n m i j l := by
  cases l with
  | nil => trivial
  | cons c t => obtain ⟨a, b⟩ := h; exact ⟨by omega, b⟩
theorem chg_wf (xs ys : List ByteArray) : ∀ (f i j i0 j0 : Nat), (xs.length - i) + (ys.length - j) ≤ f → i0 ≤ i → i ≤ xs.length → j0 ≤ j → j ≤ ys.length →
    wfC xs.length ys.length i0 j0 (chg (mat xs ys i j ++ [(xs.length, ys.length)]) i0 j0) := by
  have stop : ∀ i0 j0 : Nat, i0 ≤ xs.length → j0 ≤ ys.length → wfC xs.length ys.length i0 j0 (chg [(xs.length, ys.length)] i0 j0) := by
    intro i0 j0 h1 h2
    by_cases h : i0 < xs.length ∨ j0 < ys.length
    · rw [chg_more _ h]; exact ⟨by simp only []; omega, trivial⟩
    · rw [chg_less _ h]; trivial
  intro f
  induction f with
  | zero =>
    intro i j i0 j0 hf h1 h2 h3 h4
    rw [mat_end xs ys i j (by omega), List.nil_append]
    exact stop i0 j0 (by omega) (by omega)
  | succ f ih =>
    intro i j i0 j0 hf h1 h2 h3 h4
    by_cases hij : i < xs.length ∧ j < ys.length
    · obtain ⟨hi, hj⟩ := hij
      by_cases he : xs.getD i ByteArray.empty = ys.getD j ByteArray.empty
      · rw [mat_eq xs ys i j hi hj he, List.cons_append]
        have := ih (i + 1) (j + 1) (i + 1) (j + 1) (by omega) (Nat.le_refl _) (by omega) (Nat.le_refl _) (by omega)
        by_cases h : i0 < i ∨ j0 < j
        · rw [chg_more _ h]
          exact ⟨by simp only []; omega, wfC_mono this (by simp only []; omega) (by simp only []; omega)⟩
        · rw [chg_less _ h]
          exact wfC_mono this (by omega) (by omega)
      · cases hs : skipA xs ys i j with
        | true => rw [mat_skipA xs ys i j hi hj he hs]; exact ih _ _ _ _ (by omega) (by omega) (by omega) (by omega) (by omega)
        | false => rw [mat_skipB xs ys i j hi hj he hs]; exact ih _ _ _ _ (by omega) (by omega) (by omega) (by omega) (by omega)
    · rw [mat_end xs ys i j hij, List.nil_append]
      exact stop i0 j0 (by omega) (by omega)
/-- Each change in its bounds, and behind the one ahead. -/
structure CW (n m : Nat) (l : List Chg) : Prop where
  bd : ∀ k, k < l.length → 0 ≤ (l.getD k (0, 0, 0, 0)).1 ∧ 0 ≤ (l.getD k (0, 0, 0, 0)).2.1 ∧ (l.getD k (0, 0, 0, 0)).1 + (l.getD k (0, 0, 0, 0)).2.1 ≤ n ∧ 0 ≤ (l.getD k (0, 0, 0, 0)).2.2.1 ∧ 0 ≤ (l.getD k (0, 0, 0, 0)).2.2.2 ∧ (l.getD k (0, 0, 0, 0)).2.2.1 + (l.getD k (0, 0, 0, 0)).2.2.2 ≤ m
  up : ∀ k, k + 1 < l.length → (l.getD k (0, 0, 0, 0)).1 + (l.getD k (0, 0, 0, 0)).2.1 ≤ (l.getD (k + 1) (0, 0, 0, 0)).1
  upB : ∀ k, k + 1 < l.length → (l.getD k (0, 0, 0, 0)).2.2.1 + (l.getD k (0, 0, 0, 0)).2.2.2 ≤ (l.getD (k + 1) (0, 0, 0, 0)).2.2.1
theorem wfC_cw {n m : Nat} : ∀ {l : List Chg} {i j : Int}, wfC n m i j l → 0 ≤ i → 0 ≤ j → CW n m l := by
  intro l
  induction l with
  | nil => intro i j _ _ _; exact ⟨fun k hk => absurd hk (Nat.not_lt_zero _), fun k hk => absurd hk (Nat.not_lt_zero _), fun k hk => absurd hk (Nat.not_lt_zero _)⟩
  | cons c t ih =>
    intro i j h h1 h2
    obtain ⟨hc, ht⟩ := h
    have I := ih ht (by omega) (by omega)
    refine ⟨fun k hk => ?_, fun k hk => ?_, fun k hk => ?_⟩
    · cases k with
      | zero => show 0 ≤ c.1 ∧ 0 ≤ c.2.1 ∧ c.1 + c.2.1 ≤ n ∧ 0 ≤ c.2.2.1 ∧ 0 ≤ c.2.2.2 ∧ c.2.2.1 + c.2.2.2 ≤ m; omega
      | succ k => exact I.bd k (by simpa using hk)
    · cases k with
      | zero =>
        cases t with
        | nil => simp at hk
        | cons d t => exact ht.1.1
      | succ k => exact I.up k (by simpa using hk)
    · cases k with
      | zero =>
        cases t with
        | nil => simp at hk
        | cons d t => exact ht.1.2.2.2.1
      | succ k => exact I.upB k (by simpa using hk)
theorem changes_cw (xs ys : List ByteArray) : CW xs.length ys.length (changes xs ys) := by
  have h := chg_wf xs ys _ 0 0 0 0 (Nat.le_refl _) (Nat.le_refl _) (Nat.zero_le _) (Nat.le_refl _) (Nat.zero_le _)
  exact wfC_cw h (by omega) (by omega)
theorem getD_take4 (l : List Chg) (n k : Nat) (h : k < n) : (l.take n).getD k (0, 0, 0, 0) = l.getD k (0, 0, 0, 0) := by simp [List.getD, h]
theorem getD_drop4 (l : List Chg) (n k : Nat) : (l.drop n).getD k (0, 0, 0, 0) = l.getD (n + k) (0, 0, 0, 0) := by simp [List.getD]
theorem CW.take {n m : Nat} {l : List Chg} (h : CW n m l) (j : Nat) : CW n m (l.take j) := by
  refine ⟨fun k hk => ?_, fun k hk => ?_, fun k hk => ?_⟩
  · rw [List.length_take] at hk; rw [getD_take4 _ _ _ (by omega)]; exact h.bd k (by omega)
  · rw [List.length_take] at hk; rw [getD_take4 _ _ _ (by omega), getD_take4 _ _ _ (by omega)]; exact h.up k (by omega)
  · rw [List.length_take] at hk; rw [getD_take4 _ _ _ (by omega), getD_take4 _ _ _ (by omega)]; exact h.upB k (by omega)
theorem CW.drop {n m : Nat} {l : List Chg} (h : CW n m l) (j : Nat) : CW n m (l.drop j) := by
  refine ⟨fun k hk => ?_, fun k hk => ?_, fun k hk => ?_⟩
  · rw [List.length_drop] at hk; rw [getD_drop4]; exact h.bd (j + k) (by omega)
  · rw [List.length_drop] at hk; rw [getD_drop4, getD_drop4]; exact h.up (j + k) (by omega)
  · rw [List.length_drop] at hk; rw [getD_drop4, getD_drop4]; exact h.upB (j + k) (by omega)
/-- Change j is in another hunk than the one ahead of it. -/
def cutB (cx : Int) (l : List Chg) (j : Nat) : Bool := decide (2 * cx < (l.getD j (0, 0, 0, 0)).1 - (l.getD (j - 1) (0, 0, 0, 0)).1 - (l.getD (j - 1) (0, 0, 0, 0)).2.1)
def nxF (cx : Int) (l : List Chg) : Nat → Nat → Nat
  | 0, j => j
  | f + 1, j => if cutB cx l j = true then j else nxF cx l f (j + 1)
/-- The first change from j on that begins a hunk, or the end. -/
def nx (cx : Int) (l : List Chg) (j : Nat) : Nat := nxF cx l (l.length - j) j
theorem nx_end (cx : Int) (l : List Chg) (j : Nat) (h : l.length ≤ j) : nx cx l j = j := by
  unfold nx; rw [show l.length - j = 0 by omega]; rfl
theorem nx_cut (cx : Int) (l : List Chg) (j : Nat) (h : j < l.length) (hc : cutB cx l j = true) : nx cx l j = j := by
  unfold nx
  obtain ⟨f, hf⟩ : ∃ f, l.length - j = f + 1 := ⟨l.length - j - 1, by omega⟩
  rw [hf, nxF, if_pos hc]
theorem nx_go (cx : Int) (l : List Chg) (j : Nat) (h : j < l.length) (hc : cutB cx l j = false) : nx cx l j = nx cx l (j + 1) := by
  unfold nx
  obtain ⟨f, hf⟩ : ∃ f, l.length - j = f + 1 := ⟨l.length - j - 1, by omega⟩
  rw [hf, nxF, hc, if_neg Bool.false_ne_true, show l.length - (j + 1) = f by omega]
theorem nx_bd (cx : Int) (l : List Chg) : ∀ f j, l.length - j = f → j ≤ l.length → j ≤ nx cx l j ∧ nx cx l j ≤ l.length := by
  intro f
  induction f with
  | zero => intro j h hj; rw [nx_end cx l j (by omega)]; omega
  | succ f ih =>
    intro j h hj
    cases hc : cutB cx l j with
    | true => rw [nx_cut cx l j (by omega) hc]; omega
    | false =>
      rw [nx_go cx l j (by omega) hc]
      have := ih (j + 1) (by omega) (by omega)
      omega
/-- How many changes, from the first on, are in one hunk. -/
def tog (cx : Int) (l : List Chg) : Nat := nx cx l 1
theorem tog_bd (cx : Int) (l : List Chg) (h : 0 < l.length) : 1 ≤ tog cx l ∧ tog cx l ≤ l.length := nx_bd cx l _ 1 rfl h
/-- A line with a mark ahead. -/
def mkL (b : UInt8) (s : ByteArray) : ByteArray := (⟨#[b]⟩ : ByteArray) ++ s
theorem mkL_size (b : UInt8) (s : ByteArray) : (mkL b s).size = s.size + 1 := by
  unfold mkL
  rw [ByteArray.size_append]
  have : (⟨#[b]⟩ : ByteArray).size = 1 := rfl
  omega
/-- Lines i to j. -/
def sg (xs : List ByteArray) (i j : Int) : List ByteArray := (xs.drop i.toNat).take (j.toNat - i.toNat)
theorem sg_nat (xs : List ByteArray) (i j : Nat) : sg xs (i : Int) (j : Int) = (xs.drop i).take (j - i) := by simp [sg]
theorem sg_len (xs : List ByteArray) (i j : Int) : (sg xs i j).length ≤ j.toNat - i.toNat := by unfold sg; rw [List.length_take]; omega
theorem sg_mem {xs : List ByteArray} {i j : Int} {x : ByteArray} (h : x ∈ sg xs i j) : x ∈ xs := List.mem_of_mem_drop (List.mem_of_mem_take h)
/-- Where the walk through a hunk's changes stands in the old lines, and the lines so far. -/
def atK (a0 : Int) (cs : List Chg) : Nat → Int
  | 0 => a0
  | k + 1 => (cs.getD k (0, 0, 0, 0)).1 + (cs.getD k (0, 0, 0, 0)).2.1
def hlK (xs ys : List ByteArray) (a0 : Int) (cs : List Chg) : Nat → List ByteArray
  | 0 => []
  | k + 1 => hlK xs ys a0 cs k ++ (sg xs (atK a0 cs k) (cs.getD k (0, 0, 0, 0)).1).map (mkL 32) ++ (sg xs (cs.getD k (0, 0, 0, 0)).1 ((cs.getD k (0, 0, 0, 0)).1 + (cs.getD k (0, 0, 0, 0)).2.1)).map (mkL 45) ++ (sg ys (cs.getD k (0, 0, 0, 0)).2.2.1 ((cs.getD k (0, 0, 0, 0)).2.2.1 + (cs.getD k (0, 0, 0, 0)).2.2.2)).map (mkL 43)
theorem hlK_succ (xs ys : List ByteArray) (a0 : Int) (cs : List Chg) (k : Nat) : hlK xs ys a0 cs (k + 1) = hlK xs ys a0 cs k ++ (sg xs (atK a0 cs k) (cs.getD k (0, 0, 0, 0)).1).map (mkL 32) ++ (sg xs (cs.getD k (0, 0, 0, 0)).1 ((cs.getD k (0, 0, 0, 0)).1 + (cs.getD k (0, 0, 0, 0)).2.1)).map (mkL 45) ++ (sg ys (cs.getD k (0, 0, 0, 0)).2.2.1 ((cs.getD k (0, 0, 0, 0)).2.2.1 + (cs.getD k (0, 0, 0, 0)).2.2.2)).map (mkL 43) := rfl
theorem atK_succ (a0 : Int) (cs : List Chg) (k : Nat) : atK a0 cs (k + 1) = (cs.getD k (0, 0, 0, 0)).1 + (cs.getD k (0, 0, 0, 0)).2.1 := rfl
def hunkA (cx : Int) (cs : List Chg) : Int := (cs.getD 0 (0, 0, 0, 0)).1 - min cx (cs.getD 0 (0, 0, 0, 0)).1
def hunkB (cx : Int) (cs : List Chg) : Int := (cs.getD 0 (0, 0, 0, 0)).2.2.1 - min cx (cs.getD 0 (0, 0, 0, 0)).1
def hunkL (xs ys : List ByteArray) (cx : Int) (cs : List Chg) : List ByteArray := hlK xs ys (hunkA cx cs) cs cs.length ++ (sg xs (atK (hunkA cx cs) cs cs.length) (min (atK (hunkA cx cs) cs cs.length + cx) xs.length)).map (mkL 32)
/-- The hunk of changes cs. -/
def hunkOf (xs ys : List ByteArray) (cx : Int) (cs : List Chg) : Hk := (hunkA cx cs, hunkB cx cs, hunkL xs ys cx cs)
theorem atK_bd {n m : Nat} {cs : List Chg} (h : CW n m cs) {cx : Int} (h0 : 0 ≤ cx) (hc : 0 < cs.length) : ∀ k, k ≤ cs.length → 0 ≤ atK (hunkA cx cs) cs k ∧ atK (hunkA cx cs) cs k ≤ n ∧ (k < cs.length → atK (hunkA cx cs) cs k ≤ (cs.getD k (0, 0, 0, 0)).1) := by
  intro k hk
  cases k with
  | zero =>
    have := h.bd 0 hc
    show 0 ≤ hunkA cx cs ∧ hunkA cx cs ≤ n ∧ (0 < cs.length → hunkA cx cs ≤ (cs.getD 0 (0, 0, 0, 0)).1)
    unfold hunkA
    omega
  | succ k =>
    have h1 := h.bd k (by omega)
    rw [atK_succ]
    refine ⟨by omega, by omega, fun hk' => h.up k hk'⟩
theorem hlK_length {n m : Nat} {xs ys : List ByteArray} {cs : List Chg} (h : CW n m cs) (hn : n ≤ 100) (hm : m ≤ 100) (a0 : Int) : ∀ k, k ≤ cs.length → (hlK xs ys a0 cs k).length ≤ k * 300 := by
  intro k
  induction k with
  | zero => intro _; exact Nat.zero_le _
  | succ k ih =>
    intro hk
    have h1 := ih (by omega)
    have h2 := h.bd k (by omega)
    rw [hlK_succ, List.length_append, List.length_append, List.length_append, List.length_map, List.length_map, List.length_map]
    have s1 := sg_len xs (atK a0 cs k) (cs.getD k (0, 0, 0, 0)).1
    have s2 := sg_len xs (cs.getD k (0, 0, 0, 0)).1 ((cs.getD k (0, 0, 0, 0)).1 + (cs.getD k (0, 0, 0, 0)).2.1)
    have s3 := sg_len ys (cs.getD k (0, 0, 0, 0)).2.2.1 ((cs.getD k (0, 0, 0, 0)).2.2.1 + (cs.getD k (0, 0, 0, 0)).2.2.2)
    omega
theorem hunkL_length {xs ys : List ByteArray} {cs : List Chg} (h : CW xs.length ys.length cs) (hn : xs.length ≤ 100) (hm : ys.length ≤ 100) (cx : Int) : (hunkL xs ys cx cs).length ≤ cs.length * 300 + 100 := by
  unfold hunkL
  rw [List.length_append, List.length_map]
  have h1 := hlK_length (xs := xs) (ys := ys) h hn hm (hunkA cx cs) cs.length (Nat.le_refl _)
  have h2 := sg_len xs (atK (hunkA cx cs) cs cs.length) (min (atK (hunkA cx cs) cs cs.length + cx) xs.length)
  omega
theorem mkL_small {b : UInt8} {ss : List ByteArray} {Z : Nat} (hz : ∀ x ∈ ss, x.size ≤ Z) : ∀ x ∈ ss.map (mkL b), x.size ≤ Z + 1 := by
  intro x hx
  obtain ⟨y, hy, rfl⟩ := List.mem_map.1 hx
  rw [mkL_size]
  have := hz y hy
  omega
theorem hlK_small {xs ys : List ByteArray} {Z : Nat} (z1 : ∀ x ∈ xs, x.size ≤ Z) (z2 : ∀ x ∈ ys, x.size ≤ Z) (a0 : Int) (cs : List Chg) : ∀ k, ∀ x ∈ hlK xs ys a0 cs k, x.size ≤ Z + 1 := by
  intro k
  induction k with
  | zero => intro x hx; cases hx
  | succ k ih =>
    intro x hx
    rw [hlK_succ] at hx
    rcases List.mem_append.1 hx with hx | hx
    · rcases List.mem_append.1 hx with hx | hx
      · rcases List.mem_append.1 hx with hx | hx
        · exact ih x hx
        · exact mkL_small (fun y hy => z1 y (sg_mem hy)) x hx
      · exact mkL_small (fun y hy => z1 y (sg_mem hy)) x hx
    · exact mkL_small (fun y hy => z2 y (sg_mem hy)) x hx
theorem hunkL_small {xs ys : List ByteArray} {Z : Nat} (z1 : ∀ x ∈ xs, x.size ≤ Z) (z2 : ∀ x ∈ ys, x.size ≤ Z) (cx : Int) (cs : List Chg) : ∀ x ∈ hunkL xs ys cx cs, x.size ≤ Z + 1 := by
  intro x hx
  rcases List.mem_append.1 hx with hx | hx
  · exact hlK_small z1 z2 _ _ _ x hx
  · exact mkL_small (fun y hy => z1 y (sg_mem hy)) x hx
/-- The hunks of changes. -/
def hksF (xs ys : List ByteArray) (cx : Int) : Nat → List Chg → List Hk
  | 0, _ => []
  | f + 1, cs => if cs.length = 0 then [] else hunkOf xs ys cx (cs.take (tog cx cs)) :: hksF xs ys cx f (cs.drop (tog cx cs))
def hks (xs ys : List ByteArray) (cx : Int) (cs : List Chg) : List Hk := hksF xs ys cx cs.length cs
theorem hksF_more (xs ys : List ByteArray) (cx : Int) : ∀ (f g : Nat) (cs : List Chg), cs.length ≤ f → cs.length ≤ g → hksF xs ys cx f cs = hksF xs ys cx g cs := by
  intro f
  induction f with
  | zero =>
    intro g cs h1 h2
    cases g with
    | zero => rfl
    | succ g => rw [hksF, hksF, if_pos (by omega)]
  | succ f ih =>
    intro g cs h1 h2
    cases g with
    | zero => rw [hksF, hksF, if_pos (by omega)]
    | succ g =>
      rw [hksF, hksF]
      split
      · rfl
      · have := tog_bd cx cs (by omega)
        rw [ih g (cs.drop (tog cx cs)) (by rw [List.length_drop]; omega) (by rw [List.length_drop]; omega)]
theorem hks_nil (xs ys : List ByteArray) (cx : Int) {cs : List Chg} (h : cs.length = 0) : hks xs ys cx cs = [] := by unfold hks; rw [h]; rfl
theorem hks_step (xs ys : List ByteArray) (cx : Int) {cs : List Chg} (h : 0 < cs.length) : hks xs ys cx cs = hunkOf xs ys cx (cs.take (tog cx cs)) :: hks xs ys cx (cs.drop (tog cx cs)) := by
  unfold hks
  obtain ⟨f, hf⟩ : ∃ f, cs.length = f + 1 := ⟨cs.length - 1, by omega⟩
  have := tog_bd cx cs h
  rw [hf, hksF, if_neg (by omega)]
  congr 1
  exact hksF_more xs ys cx _ _ _ (by rw [List.length_drop]; omega) (Nat.le_refl _)
theorem hks_mem (xs ys : List ByteArray) (cx : Int) : ∀ (f : Nat) (cs : List Chg), cs.length ≤ f → ∀ h ∈ hks xs ys cx cs, ∃ i j, h = hunkOf xs ys cx ((cs.drop i).take j) := by
  intro f
  induction f with
  | zero => intro cs hc h hh; rw [hks_nil xs ys cx (by omega)] at hh; cases hh
  | succ f ih =>
    intro cs hc h hh
    by_cases h0 : cs.length = 0
    · rw [hks_nil xs ys cx h0] at hh; cases hh
    · rw [hks_step xs ys cx (by omega)] at hh
      rcases List.mem_cons.1 hh with rfl | hh
      · exact ⟨0, tog cx cs, rfl⟩
      · have hb := tog_bd cx cs (by omega)
        obtain ⟨i, j, e⟩ := ih (cs.drop (tog cx cs)) (by rw [List.length_drop]; omega) h hh
        exact ⟨tog cx cs + i, j, by rw [e, List.drop_drop]⟩
theorem hks_length (xs ys : List ByteArray) (cx : Int) : ∀ (f : Nat) (cs : List Chg), cs.length ≤ f → (hks xs ys cx cs).length ≤ cs.length := by
  intro f
  induction f with
  | zero => intro cs hc; rw [hks_nil xs ys cx (by omega)]; exact Nat.zero_le _
  | succ f ih =>
    intro cs hc
    by_cases h0 : cs.length = 0
    · rw [hks_nil xs ys cx h0]; exact Nat.zero_le _
    · have hb := tog_bd cx cs (by omega)
      rw [hks_step xs ys cx (by omega), List.length_cons]
      have := ih (cs.drop (tog cx cs)) (by rw [List.length_drop]; omega)
      rw [List.length_drop] at this
      omega
end Go.Proofs.YtnkbjbbaoddfkaaGreatDoor
