/- The contract of the program's encode, at a tree. No statement is proved here. -/
import Derived.Test.YtjcnnmnnbjaheaaGreatDoorRows
import Derived.Test.YtjcnnmnnbjaheaaGreatDoorLemQ
import Derived.Test.YtjcnnmnnbjaheaaGreatDoorLFLemQ
import Derived.Test.YtjcnnmnnbjaheaaGreatDoorDTabQ
import Derived.Test.YtjcnnmnnbjaheaaGreatDoorHkTQ
import Derived.Test.YtjcnnmnnbjaheaaGreatDoorIterQ
import Derived.Test.YtjcnnmnnbjaheaaGreatDoorIdLQ
import Derived.Test.YtjcnnmnnbjaheaaGreatDoorTeLQ
import Derived.Test.YtjcnnmnnbjaheaaGreatDoorWwCQ
import Derived.Test.YtjcnnmnnbjaheaaGreatDoorJnCQ
import Derived.Test.YtjcnnmnnbjaheaaGreatDoorTrWQ
import Derived.Test.YtjcnnmnnbjaheaaGreatDoorTrSQ
import Derived.Test.YtjcnnmnnbjaheaaGreatDoorXtFQ
import Derived.Test.YtjcnnmnnbjaheaaGreatDoorDtMQ
import Derived.Test.YtjcnnmnnbjaheaaGreatDoorDigCQ
import Derived.Stop.Asserts
import Derived.WalkKit
import Derived.ProofKit
import Derived.Below
import Derived.WalkSpells
import Derived.Test.YtjcnnmnnbjaheaaGreatDoorDtLQ
import Derived.Test.YtjcnnmnnbjaheaaGreatDoorShelfQ
import Derived.Test.YtjcnnmnnbjaheaaGreatDoorMarksQ
import Derived.Test.YtjcnnmnnbjaheaaGreatDoorIxBQ
import Derived.RangeFuncWrites
import Derived.Maps.AppendAt
import Derived.OwnWalkIn
import Derived.Deep.RegionHeld
import Derived.Test.YtjcnnmnnbjaheaaGreatDoorCutLQ
namespace Go.Proofs.YtjcnnmnnbjaheaaGreatDoor.Te
open Go.ChangeShapes Go.WideShapes Go.ChangeAt Go.RowKit

theorem mem_trE_small {l : List Ob} (h : trE l = 0) : (trB l).size ≤ 1048576 := by
  have hm : ¬ 100 < l.length := fun h' => by rw [trE_many h'] at h; omega
  have key : ∀ n, n ≤ l.length → ∀ j, j < n → teF l j = 0 := by
    intro n
    induction n with
    | zero => intro _ j hj; omega
    | succ n ih =>
      intro hn j hj
      by_cases e : j < n
      · exact ih (by omega) j e
      · have e' : j = n := by omega
        subst e'
        by_cases hb : teF l j = 0
        · exact hb
        · rw [trE_bad hm (by omega) (ih (by omega)) hb] at h
          exact h
  have hlen := tr_len l.length (Nat.le_refl _) (fun j hj => teF_ef (key l.length (Nat.le_refl _) j hj))
  have e := trB_size (l := l) l.length
  rw [List.take_length] at e hlen
  omega

/-- The text of EncodeTree's answer. -/
def etT (l : List Ob) : ByteArray := if tfl l = 0 then trB l else ⟨#[]⟩
theorem et_ret {c d : Int} {s t : ByteArray} (h : c = d) (k : s = t) : Ending.returned (.agg #[.int .i64 c, .string s]) = .returned (.agg #[.int .i64 d, .string t]) := by rw [h, k]
theorem etT_ok {l : List Ob} (h : tfl l = 0) : etT l = trB l := if_pos h
theorem etT_no {l : List Ob} (h : ¬ tfl l = 0) : etT l = ⟨#[]⟩ := if_neg h
theorem tfl_fine {l : List Ob} (h : tfl l = 0) : Fine l ∧ l.length ≤ 100 := by
  have h0 : trE l = 0 := by
    by_cases e : trE l = 0
    · exact e
    · rw [tfl_bad e] at h; exact absurd h e
  have hm : ¬ 100 < l.length := fun h' => by rw [trE_many h'] at h0; omega
  refine ⟨fun j hj => ?_, by omega⟩
  have key : ∀ n, n ≤ l.length → ∀ j, j < n → teF l j = 0 := by
    intro n
    induction n with
    | zero => intro _ j hj; omega
    | succ n ih =>
      intro hn j hj
      by_cases e : j < n
      · exact ih (by omega) j e
      · have e' : j = n := by omega
        subst e'
        by_cases hb : teF l j = 0
        · exact hb
        · rw [trE_bad hm (by omega) (ih (by omega)) hb] at h0
          exact h0
  exact teF_ef (key l.length (Nat.le_refl _) j hj)
end Go.Proofs.YtjcnnmnnbjaheaaGreatDoor.Te
/- The contract of the program's wantText, at a tree. No statement is proved here. -/
namespace Go.Proofs.YtjcnnmnnbjaheaaGreatDoor.Te
open Go.ChangeShapes Go.WideShapes Go.ChangeAt Go.RowKit

end Go.Proofs.YtjcnnmnnbjaheaaGreatDoor.Te
/- The contract of the program's readTree. No statement is proved here. -/
namespace Go.Proofs.YtjcnnmnnbjaheaaGreatDoor.Te
open Go.RowKit Go.Shelf
attribute [local go_sem] Oper.semAt_some

/-- What is read of a list of lines. -/
def pL (xs : List ByteArray) : List Ob := xs.map (fun x => pEnt x.data.toList)
theorem pL_snoc (xs : List ByteArray) (x : ByteArray) : pL (xs ++ [x]) = pL xs ++ [pEnt x.data.toList] := by simp [pL]
theorem pL_lines (s : ByteArray) : pL (linesOf s) = dtP s := by simp [pL, dtP, linesOf, linesFrom, mkB_data, Function.comp_def]
theorem ocells_snoc (l : List Ob) (o : Ob) : ocells (l ++ [o]) = ocells l ++ [.string o.1, .int .i64 o.2.1, .string o.2.2] := by
  unfold ocells
  rw [List.length_append, List.length_singleton, show (l.length + 1) * 3 = l.length * 3 + 3 by omega, rowG_append]
  congr 1
  · exact rowG_congr fun j hj => by
      unfold ocell
      have : (l ++ [o]).getD (j / 3) onil = l.getD (j / 3) onil := by
        have h3 : j / 3 < l.length := by omega
        simp [List.getD, List.getElem?_append_left h3]
      rw [this]
  · have e : (l ++ [o]).getD l.length onil = o := by simp [List.getD]
    show [ocell _ (l.length * 3 + 0), ocell _ (l.length * 3 + 1), ocell _ (l.length * 3 + 2)] = _
    rw [Nat.add_zero, ocell0, ocell1, ocell2, e]
theorem ownsRow_mono3 {w : World} {B B' : Nat} {e : TypeId} {size n : Nat} {v : Value} {xs : List Value} (h : w.ownsRow B e size v n xs) (hB : B' ≤ B) : w.ownsRow B' e size v n xs :=
  ⟨h.1, h.2.imp id fun ⟨g, cap, cur, h1, h2, h3⟩ => ⟨g, cap, cur, h1, Nat.le_trans hB h2, h3⟩⟩
/-- append onto a row of the call's own, as one step of a region that draws. -/
theorem stepH_append_own {P : Program} {ops : Array Oper} {o : Oper} {a : Act} {w : World} {K : Act → World → Prop} {Q : Exit → Act → World → Prop} {E : Prop}
    (hg : o.guard = none) (s x : Operand) (t : TypeId) (hop : o.op = Op.call { callee := Callee.builtin Builtin.append, args := #[s, x], argTypes := #[t, t] })
    (base : Nat) (e : TypeId) (i : TypeInfo) (z : Value) (size bytes : Nat) (h1 : P.underlying t = some (.slice e)) (h2 : P.info? e = some i) (h3 : i.zero = some z) (h4 : i.size = size) (h5 : i.bytes = bytes) (h6 : z.cells.size = size) (h7 : 0 < size)
    (v : Value) (k : Nat) (xs : List Value) (hs : a.eval s = v) (hown : w.ownsRow base e size v k xs) (ad : Addr) (m c : Nat) (news : List Value) (hx : a.eval x = .slice (some ad) m c) (hn : news.length = m * size)
    (hc : ∀ j u, news[j]? = some u → w.cell? (ad.add j) = some u) (h1c : ∀ u ∈ news, u.oneCell' = true) (b1 : k + m ≤ maxLen) (b2 : (k + m) * bytes ≤ 140737488355328) (b3 : base ≤ w.heap.size)
    (hK : ∀ v' w', w'.ownsRow base e size v' (k + m) (xs ++ news) → w.grownBy w' v.ownBlock → K (a.put o.dst v') w') :
    if Region.wanted o (yielded ops a.tmps) = true then Oper.wp P o a w K Q else E := by
  have hw : Region.wanted o (yielded ops a.tmps) = true := by simp [Region.wanted, hg]
  rw [if_pos hw]
  obtain ⟨v', w', hrun, r1, r2, _⟩ := run_append_own (P := P) w base t o.type e i z size bytes h1 h2 h3 h4 h5 h6 h7 v k xs hown ad m c news hn hc h1c b1 b2 b3
  unfold Oper.wp
  simp [execOp, hop, resolve, invoke, builtin, hs, hx, hrun, Result.andThen]
  exact hK v' w' r1 r2
theorem aft_len (l : List UInt8) : (aft l).length ≤ l.length := by
  unfold aft
  rw [List.length_drop]
  have := (List.dropWhile_sublist (fun c : UInt8 => c != 32) (l := l)).length_le
  omega
theorem bef_len (l : List UInt8) : (bef l).length ≤ l.length := (List.takeWhile_sublist _).length_le
theorem trim_len (l : List UInt8) : (trimL l).length ≤ l.length := by
  unfold trimL
  split
  · simp
  · exact Nat.le_refl _
theorem mkB_size (l : List UInt8) : (mkB l).size = l.length := by rw [← size_eq, mkB_data]
theorem three_new (w : World) (x y z : Value) (t : TypeId) : ∀ (j : Nat) (u : Value), [x, y, z][j]? = some u → (w.alloc (.cells #[x, y, z] t)).cell? ((⟨w.heap.size, 0, none⟩ : Addr).add j) = some u := fun j u h => by
  have := word_cell w t #[x, y, z] j u h
  rw [WideShapes.add_plain, Nat.zero_add]
  exact this
def onlyN (Q : Exit → Act → World → Prop) (e : Exit) (a : Act) (w : World) : Prop := e = .normal ∧ Q e a w
theorem region_wide {P : Program} {ops : Array Oper} {n id : Nat} {Q : Exit → Act → World → Prop} {S : World → Prop} {a : Act} {w : World} (hm : P.follows .mixedOrders = true) (hS : S w.drew)
    (h : S w.drew → wpAnyH P .any ops (onlyN Q) S ops.size (Array.replicate ops.size false) a w.drew) : (Code.region id ops true).wpIn Fence.wide n P Q a w :=
  wpIn_wide.2 (wp_mono (wp_region_held_drew hm hS h) (fun _ _ _ q => q.2))

theorem pL_length (xs : List ByteArray) : (pL xs).length = xs.length := by simp [pL]
end Go.Proofs.YtjcnnmnnbjaheaaGreatDoor.Te
/- The contract of spec.l6Untree. No statement is proved here. -/
namespace Go.Proofs.YtjcnnmnnbjaheaaGreatDoor.Te
open Go.ChangeShapes Go.WideShapes Go.ChangeAt Go.RowKit

theorem sAll_app : ∀ (xs ys : List (List UInt8)), sAll (xs ++ ys) = match sAll xs with
    | none => none
    | some l => match sAll ys with
      | none => none
      | some m => some (l ++ m)
  | [], ys => by cases h : sAll ys <;> simp [sAll, h]
  | x :: xs, ys => by
    have ih := sAll_app xs ys
    simp only [List.cons_append, sAll]
    cases sEnt x with
    | none => rfl
    | some o =>
      simp only
      rw [ih]
      cases sAll xs with
      | none => rfl
      | some l =>
        simp only
        cases sAll ys with
        | none => rfl
        | some m => rfl
theorem sAll_one (x : List UInt8) : sAll [x] = match sEnt x with
    | none => none
    | some o => some [o] := by
  simp only [sAll]
  cases sEnt x <;> rfl
theorem sAll_bad {xs : List (List UInt8)} {k : Nat} {x : List UInt8} (hx : xs[k]? = some x) (h : sEnt x = none) : sAll xs = none := by
  have hk : k < xs.length := (List.getElem?_eq_some_iff.1 hx).1
  have e : xs = xs.take k ++ (x :: xs.drop (k + 1)) := by
    rw [← (List.getElem?_eq_some_iff.1 hx).2, ← List.drop_eq_getElem_cons hk, List.take_append_drop]
  rw [e, sAll_app]
  have : sAll (x :: xs.drop (k + 1)) = none := by simp only [sAll, h]
  rw [this]
  cases sAll (xs.take k) <;> rfl
theorem sAll_take {xs : List (List UInt8)} {k : Nat} {x : List UInt8} {l : List Ob} {o : Ob} (hx : xs[k]? = some x) (hl : sAll (xs.take k) = some l) (h : sEnt x = some o) : sAll (xs.take (k + 1)) = some (l ++ [o]) := by
  have hk : k < xs.length := (List.getElem?_eq_some_iff.1 hx).1
  rw [List.take_succ_eq_append_getElem hk, (List.getElem?_eq_some_iff.1 hx).2, sAll_app, hl, sAll_one, h]
theorem s_open {x : ByteArray} (h : endB x = false) : sEnt x.data.toList = none := by
  unfold sEnt; rw [if_neg (of_decide_eq_false h)]
theorem trim_end {x : ByteArray} (h : endB x = true) : trimL x.data.toList = x.data.toList.dropLast := by
  unfold trimL; rw [if_pos (of_decide_eq_true h)]
theorem cut_un {x : ByteArray} (h : endB x = true) : cutOf 32 (unT x) = (cutL 32 x.data.toList.dropLast).map mkB := by
  unfold unT cutOf cutFrom
  rw [if_pos h, mkB_data, List.drop_zero, trim_end h]
theorem s_count {x : ByteArray} (h : endB x = true) (n : ¬ (cutOf 32 (unT x)).length = 3) : sEnt x.data.toList = none := by
  rw [cut_un h, List.length_map] at n
  unfold sEnt
  rw [if_pos (of_decide_eq_true h)]
  generalize cutL 32 x.data.toList.dropLast = t at n
  match t, n with
  | [], _ => rfl
  | [_], _ => rfl
  | [_, _], _ => rfl
  | [_, _, _], n => exact absurd rfl n
  | _ :: _ :: _ :: _ :: _, _ => rfl
theorem s_three {x : ByteArray} (h : endB x = true) (n : (cutOf 32 (unT x)).length = 3) : ∃ a b c : ByteArray, cutOf 32 (unT x) = [a, b, c] ∧ sEnt x.data.toList = some (c, md a.data.toList, b) := by
  rw [cut_un h, List.length_map] at n
  rw [cut_un h]
  unfold sEnt
  rw [if_pos (of_decide_eq_true h)]
  generalize cutL 32 x.data.toList.dropLast = t at n
  match t, n with
  | [a, b, c], _ => exact ⟨mkB a, mkB b, mkB c, rfl, rfl⟩
/-- The mode that the words ahead of j give. -/
def mdU (a : ByteArray) (j : Nat) : Int := if a = ⟨#[116, 114, 101, 101]⟩ ∧ 3 < j then 3 else if a = ⟨#[114, 117, 110]⟩ ∧ 2 < j then 2 else if a = ⟨#[102, 105, 108, 101]⟩ ∧ 1 < j then 1 else 0
theorem mdU_one (a : ByteArray) : mdU a 1 = 0 := by simp [mdU]
theorem mdU_four (a : ByteArray) : mdU a 4 = md a.data.toList := by
  unfold mdU
  by_cases h3 : a = ⟨#[116, 114, 101, 101]⟩
  · rw [if_pos ⟨h3, by omega⟩, md_three h3]
  · rw [if_neg (fun q => h3 q.1)]
    by_cases h2 : a = ⟨#[114, 117, 110]⟩
    · rw [if_pos ⟨h2, by omega⟩, md_two h2]
    · rw [if_neg (fun q => h2 q.1)]
      by_cases h1 : a = ⟨#[102, 105, 108, 101]⟩
      · rw [if_pos ⟨h1, by omega⟩, md_one h1]
      · rw [if_neg (fun q => h1 q.1), md_none h1 h2 h3]
theorem mdU_hit1 {a : ByteArray} (h : a = ⟨#[102, 105, 108, 101]⟩) : mdU a 2 = 1 := by subst h; rfl
theorem mdU_hit2 {a : ByteArray} (h : a = ⟨#[114, 117, 110]⟩) : mdU a 3 = 2 := by subst h; rfl
theorem mdU_hit3 {a : ByteArray} (h : a = ⟨#[116, 114, 101, 101]⟩) : mdU a 4 = 3 := by subst h; rfl
theorem mdU_miss1 {a : ByteArray} (h : ¬ a = ⟨#[102, 105, 108, 101]⟩) : mdU a 2 = mdU a 1 := by simp [mdU, h]
theorem mdU_miss2 {a : ByteArray} (h : ¬ a = ⟨#[114, 117, 110]⟩) : mdU a 3 = mdU a 2 := by simp [mdU, h]
theorem mdU_miss3 {a : ByteArray} (h : ¬ a = ⟨#[116, 114, 101, 101]⟩) : mdU a 4 = mdU a 3 := by simp [mdU, h]
/-- The word of a mode. -/
def wdB (j : Nat) : ByteArray := if j = 1 then ⟨#[102, 105, 108, 101]⟩ else if j = 2 then ⟨#[114, 117, 110]⟩ else ⟨#[116, 114, 101, 101]⟩
theorem l6WordsJ (j : Nat) (h1 : 1 ≤ j) (h2 : j < 4) (w : World) : Calls Tryz.prog 57 #[] w.drew fun e w' => e = .returned (.slice (some ⟨w.heap.size, 0, none⟩) 4 4) ∧ Below w.heap.size w w' ∧ w'.cell? ⟨w.heap.size, j, none⟩ = some (.string (wdB j)) := by
  refine (l6WordsD w).mono ?_
  rintro e w1 ⟨rfl, b, k1, k2, k3⟩
  obtain rfl | rfl | rfl : j = 1 ∨ j = 2 ∨ j = 3 := by omega
  · exact ⟨rfl, b, k1⟩
  · exact ⟨rfl, b, k2⟩
  · exact ⟨rfl, b, k3⟩
theorem mdU_step (a : ByteArray) {j : Nat} (h1 : 1 ≤ j) (h2 : j < 4) {b : Bool} (h : ((wdB j).toList == a.toList) = b) : mdU a (j + 1) = if b = true then (j : Int) else mdU a j := by
  by_cases e : a = wdB j
  · subst e
    have hb : b = true := by rw [← h]; exact beq_bytes_true rfl
    rw [if_pos hb]
    obtain rfl | rfl | rfl : j = 1 ∨ j = 2 ∨ j = 3 := by omega
    · exact mdU_hit1 rfl
    · exact mdU_hit2 rfl
    · exact mdU_hit3 rfl
  · have hb : b = false := by
      rw [← h, ByteArray.toList_eq]
      exact ne_sym (l := (wdB j).data.toList) (fun q => e (by rw [q]))
    rw [hb, if_neg (by decide)]
    obtain rfl | rfl | rfl : j = 1 ∨ j = 2 ∨ j = 3 := by omega
    · exact mdU_miss1 e
    · exact mdU_miss2 e
    · exact mdU_miss3 e

theorem SS.keptBy {w w' : World} {a : Option Addr} {ss : List ByteArray} {row : Option Nat} (h : SS w a ss) (hg : w.grownBy w' row) (hne : ∀ g off, a = some ⟨g, off, none⟩ → row ≠ some g) : SS w' a ss :=
  ⟨h.1, fun k hk => by
    obtain ⟨b, off, e, hb, hc⟩ := h.2 k hk
    refine ⟨b, off, e, Nat.lt_of_lt_of_le hb hg.size, ?_⟩
    have := hg.block b hb (fun q => hne b off e q.symm)
    unfold World.cell? at hc ⊢
    rw [this]; exact hc⟩
theorem line_size (s : ByteArray) (k : Nat) (hk : k < (linesOf s).length) : ((linesOf s).getD k ByteArray.empty).size ≤ s.size := by
  have hk' : k < (spl s.data.toList).length := by simpa [linesOf, linesFrom] using hk
  have e : (linesOf s).getD k ByteArray.empty = mkB ((spl s.data.toList)[k]) := by simp [linesOf, linesFrom, List.getD, hk']
  rw [e, mkB_size, ← size_eq]
  have h := (List.sublist_flatten_of_mem (List.getElem_mem hk')).length_le
  rw [spl_join] at h
  exact h
theorem unT_size (x : ByteArray) : (unT x).size ≤ x.size := by
  unfold unT
  split
  · exact trim_size x
  · exact Nat.zero_le _
end Go.Proofs.YtjcnnmnnbjaheaaGreatDoor.Te
