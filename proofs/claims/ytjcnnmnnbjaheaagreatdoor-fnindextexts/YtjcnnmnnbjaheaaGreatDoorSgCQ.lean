/- The files of the entries of one stage: the contracts of filesAtStage and l10Stage, of StageFiles. No statement is proved here. -/
import Derived.Test.YtjcnnmnnbjaheaaGreatDoorRows
import Derived.Test.YtjcnnmnnbjaheaaGreatDoorLemQ
import Derived.Test.YtjcnnmnnbjaheaaGreatDoorDTabQ
import Derived.Test.YtjcnnmnnbjaheaaGreatDoorHkTQ
import Derived.Test.YtjcnnmnnbjaheaaGreatDoorShelfQ
import Derived.Test.YtjcnnmnnbjaheaaGreatDoorFmCQ
import Derived.Test.YtjcnnmnnbjaheaaGreatDoorFlLQ
import Derived.Test.YtjcnnmnnbjaheaaGreatDoorIxMQ
import Derived.Test.YtjcnnmnnbjaheaaGreatDoorIxIQ
import Derived.Test.YtjcnnmnnbjaheaaGreatDoorIxSQ
import Derived.WalkKit
import Derived.ProofKit
import Derived.Below
import Derived.WalkSpells
import Derived.Deep.QuietTactic
import Derived.BigQuiet
import Derived.Deep.RegionWith
import Derived.Deep.RegionHeld
import Derived.Deep.CutRange
import Derived.Maps.AppendAt
import Derived.Laws.Cover1
import Derived.Test.YtjcnnmnnbjaheaaGreatDoorIxOQ
namespace Go.Proofs.YtjcnnmnnbjaheaaGreatDoor.En
open Go.ChangeShapes Go.WideShapes Go.ChangeAt Go.RowKit

/-- The file of an entry; the files of a stage. -/
def fil (o : Ob) : Fl.Ob := (o.1, o.2.2.1, o.2.2.2)
def stg (l : List Ob) (s : Int) : List Fl.Ob := (l.filter fun o => o.2.1 == s).map fil
theorem stg_yes (l : List Ob) (s : Int) (k : Nat) (h : k < l.length) (e : (l.getD k onil).2.1 = s) : stg (l.take (k + 1)) s = stg (l.take k) s ++ [fil (l.getD k onil)] := by
  unfold stg
  rw [ob_take l k h, List.filter_append, List.map_append]
  congr 1
  rw [List.filter_cons_of_pos (by rw [e]; simp)]
  rfl
theorem stg_no (l : List Ob) (s : Int) (k : Nat) (h : k < l.length) (e : ¬ (l.getD k onil).2.1 = s) : stg (l.take (k + 1)) s = stg (l.take k) s := by
  unfold stg
  rw [ob_take l k h, List.filter_append, List.filter_cons_of_neg (by simpa using e)]
  simp
theorem stg_len (l : List Ob) (s : Int) : (stg l s).length ≤ l.length := by
  unfold stg
  rw [List.length_map]
  exact List.length_filter_le _ _
theorem stg_take_len (l : List Ob) (s : Int) (k : Nat) : (stg (l.take k) s).length ≤ l.length := by
  have h1 := stg_len (l.take k) s
  rw [List.length_take] at h1
  omega
/-- An append of files onto a row that is owned. -/
theorem oneF (l : List Fl.Ob) : ∀ u ∈ Fl.ocells l, u.oneCell' = true := by
  intro u hu
  unfold Fl.ocells Fl.rowG at hu
  obtain ⟨j, _, rfl⟩ := List.mem_map.1 hu
  unfold Fl.ocell
  split
  · rfl
  · split <;> rfl
theorem newF (w : World) (f : Fl.Ob) : ∀ j u, (Fl.ocells [f])[j]? = some u → (w.alloc (.cells #[.string f.1, .int .i64 f.2.1, .string f.2.2] 88)).cell? ((⟨w.heap.size, 0, none⟩ : Addr).add j) = some u := by
  intro j u hu
  rw [Fl.ocells_one] at hu
  have h := Rs.new w #[.string f.1, .int .i64 f.2.1, .string f.2.2] 88 j u hu
  rw [add_plain, Nat.zero_add]
  exact h
theorem setCell_id {w : World} {b i : Nat} {v : Value} (h : w.cell? ⟨b, i, none⟩ = some v) : w.setCell ⟨b, i, none⟩ v = w := by
  have hh : (w.setCell ⟨b, i, none⟩ v).heap = w.heap := by
    apply Array.ext_getElem?
    intro k
    by_cases e : b = k
    · subst e
      cases ho : w.heap[b]? with
      | none => simp [World.setCell, Array.getElem?_modify, ho]
      | some o =>
        cases o with
        | cells c t fr =>
          have hc : c[i]? = some v := by simpa [World.cell?, ho] using h
          have hs : c.setIfInBounds i v = c := by
            apply Array.ext_getElem?
            intro j
            rw [Array.getElem?_setIfInBounds]
            by_cases q : i = j
            · subst q
              rw [if_pos rfl, hc, if_pos (Array.getElem?_eq_some_iff.1 hc).1]
            · rw [if_neg q]
          simp [World.setCell, Array.getElem?_modify, ho, hs]
        | _ => simp [World.setCell, Array.getElem?_modify, ho]
    · simp [World.setCell, Array.getElem?_modify, e]
  cases w
  simp only [World.setCell] at hh ⊢
  rw [hh]
/-- What is answered: files in memory of their own. -/
def SF (L : List Fl.Ob) (w : World) (e : Ending) (w' : World) : Prop := ∃ v, e = .returned v ∧ w'.ownsRow w.heap.size 88 3 v L.length (Fl.ocells L) ∧ Below w.heap.size w w'
theorem nilF (base : Nat) (w : World) : w.ownsRow base 88 3 (.slice none 0 0) ([] : List Fl.Ob).length (Fl.ocells []) := ⟨rfl, .inl ⟨rfl, rfl⟩⟩
end Go.Proofs.YtjcnnmnnbjaheaaGreatDoor.En
/- The contracts of StageFiles. No statement is proved here. -/
namespace Go.Proofs.YtjcnnmnnbjaheaaGreatDoor.En
open Go.ChangeShapes Go.WideShapes Go.ChangeAt Go.RowKit

theorem stepApp {P : Program} {ops : Array Oper} {o : Oper} {a : Act} {w : World} {K : Act → World → Prop} {Q : Exit → Act → World → Prop} {E : Prop}
    (hg : o.guard = none) (s x : Operand) (t : TypeId) (hop : o.op = Op.call { callee := Callee.builtin Builtin.append, args := #[s, x], argTypes := #[t, t] })
    (base : Nat) (e : TypeId) (i : TypeInfo) (z : Value) (size bytes : Nat) (ht : P.underlying t = some (.slice e)) (hi : P.info? e = some i) (hz : i.zero = some z)
    (hsize : i.size = size) (hby : i.bytes = bytes) (hzs : z.cells.size = size) (hsz : 0 < size)
    (v : Value) (n : Nat) (xs : List Value) (hs : a.eval s = v) (hown : w.ownsRow base e size v n xs)
    (ad : Addr) (m c : Nat) (news : List Value) (hx : a.eval x = .slice (some ad) m c) (hl : news.length = m * size) (hnews : ∀ j u, news[j]? = some u → w.cell? (ad.add j) = some u) (h1 : ∀ u ∈ news, u.oneCell' = true)
    (h63 : n + m ≤ maxLen) (hbytes : (n + m) * bytes ≤ 140737488355328) (hbase : base ≤ w.heap.size)
    (hK : ∀ v' w', w'.ownsRow base e size v' (n + m) (xs ++ news) → w.grownBy w' v.ownBlock → (v'.ownBlock = v.ownBlock ∨ v'.ownBlock = some w.heap.size) → K (a.put o.dst v') w') :
    if Region.wanted o (yielded ops a.tmps) = true then Oper.wp P o a w K Q else E := by
  have hw : Region.wanted o (yielded ops a.tmps) = true := by simp [Region.wanted, hg]
  rw [if_pos hw]
  obtain ⟨v', w', hr, h2, h3, h4, h5⟩ := run_append_own_at (P := P) w base t o.type e i z size bytes ht hi hz hsize hby hzs hsz v n xs hown ad m c news hl hnews h1 h63 hbytes hbase
  unfold Oper.wp
  simp only [execOp, hop, resolve, invoke, builtin, Sem.run_bind, Sem.run_pure, Result.andThen_ok, List.map_toArray, List.map_cons, List.map_nil, hs, hx, hr]
  exact hK v' w' h2 h3 h5
theorem litF (w : World) : (w.alloc (.cells #[] 88)).ownsRow w.heap.size 88 3 (.slice (some ⟨w.heap.size, 0, none⟩) 0 0) ([] : List Fl.Ob).length (Fl.ocells []) := World.ownsRow_lit w #[] 0 (Nat.le_refl _) (Nat.zero_le _) rfl
/-- An answer that is a list of files. -/
def FP (r : Int) (L : List Fl.Ob) (w : World) (e : Ending) (w' : World) : Prop := ∃ v, e = .returned (.agg #[.int .i64 r, v]) ∧ w'.ownsRow w.heap.size 88 3 v L.length (Fl.ocells L) ∧ Below w.heap.size w w'
theorem ownMonoF {w : World} {base b : Nat} {e : TypeId} {n : Nat} {v : Value} {m : Nat} {xs : List Value} (h : w.ownsRow base e n v m xs) (hb : b ≤ base) : w.ownsRow b e n v m xs := by
  refine ⟨h.1, ?_⟩
  rcases h.2 with q | ⟨g, cap, cur, h1, h2, h3⟩
  · exact .inl q
  · exact .inr ⟨g, cap, cur, h1, by omega, h3⟩
def sgR (l : List Ob) (s : Int) : Int := if ixf l = 0 then (if inB s 0 3 = true then 0 else 3) else ixf l
def sgL (l : List Ob) (s : Int) : List Fl.Ob := if sgR l s = 0 then stg l s else []
theorem shapeK3 {w : World} {base : Nat} {e : TypeId} {s : Nat} {v : Value} {n : Nat} {xs : List Value} (h : w.ownsRow base e s v n xs) : ∃ a c, v = .slice a n c := by
  rcases h.2 with ⟨h', h0'⟩ | ⟨g, c, cur, h', _⟩
  · exact ⟨none, 0, by rw [h', h0']⟩
  · exact ⟨_, _, h'⟩
end Go.Proofs.YtjcnnmnnbjaheaaGreatDoor.En
/- The program's sorted list of entries: the library's binary search, and an entry put behind all others. No statement is proved here. -/
namespace Go.Proofs.YtjcnnmnnbjaheaaGreatDoor.En
open Go.ChangeShapes Go.WideShapes Go.ChangeAt Go.RowKit

/-- Up to place p all are less than the target, and none from there on. -/
def Cuts (l : List Ob) (T : Ob) (p : Nat) : Prop := p ≤ l.length ∧ (∀ k, k < p → cmE (l.getD k onil) T < 0) ∧ (∀ k, p ≤ k → k < l.length → 0 ≤ cmE (l.getD k onil) T)
def hit (l : List Ob) (T : Ob) (p : Nat) : Bool := decide (p < l.length) && (cmE (l.getD p onil) T == 0)
end Go.Proofs.YtjcnnmnnbjaheaaGreatDoor.En
/- The program's sorted list of entries: an entry that is put behind all others. No statement is proved here. -/
namespace Go.Proofs.YtjcnnmnnbjaheaaGreatDoor.En
open Go.ChangeShapes Go.WideShapes Go.ChangeAt Go.RowKit

theorem oneE (l : List Ob) : ∀ u ∈ ocells l, u.oneCell' = true := by
  intro u hu
  unfold ocells rowG at hu
  obtain ⟨j, _, rfl⟩ := List.mem_map.1 hu
  unfold ocell
  split
  · rfl
  · split
    · rfl
    · split <;> rfl
theorem wpList_appE {w : World} {ops : Array Oper} {rest : List Oper} {o : Oper} {a : Act} {Q : Exit → Act → World → Prop} (hgd : o.guard = none) (s x : Operand)
    (ho : o.op = .call { callee := .builtin .append, args := #[s, x], argTypes := #[25, 25] })
    (base : Nat) (v : Value) (S0 : List Ob) (hs : a.eval s = v) (hown : w.ownsRow base 51 4 v S0.length (ocells S0))
    (AD : Addr) (cx : Nat) (S1 : List Ob) (hx : a.eval x = .slice (some AD) S1.length cx) (hx2 : ∀ j u, (ocells S1)[j]? = some u → w.cell? (AD.add j) = some u)
    (hb : S0.length + S1.length ≤ 2097152) (hbase : base ≤ w.heap.size)
    (h : ∀ v' w', w'.ownsRow base 51 4 v' (S0 ++ S1).length (ocells (S0 ++ S1)) → w.grownBy w' v.ownBlock → (v' = .slice none 0 0 ↔ v = .slice none 0 0 ∧ S1.length = 0) → (v'.ownBlock = v.ownBlock ∨ v'.ownBlock = some w.heap.size) → wpList Tryz.prog ops Q rest (a.put o.dst v') w') :
    wpList Tryz.prog ops Q (o :: rest) a w := by
  obtain ⟨i0, hi, hz0, hz1, hz2⟩ := info_parts infoObj
  refine wpList_append_own_at _ hgd s x _ ho base _ i0 _ 4 48 Tryz.underlying25 hi hz0 hz1 hz2 rfl (by decide) v _ _ hs hown AD S1.length cx (ocells S1) hx (ocells_length _) hx2 (oneE _) (by unfold maxLen; omega) (by omega) hbase ?_
  intro v' w' o1 g1 n1 k1
  refine h v' w' ?_ g1 n1 k1
  rw [List.length_append, ocells_app]; exact o1
theorem newE (w : World) (f : Ob) : ∀ j u, (ocells [f])[j]? = some u → (w.alloc (.cells #[.string f.1, .int .i64 f.2.1, .int .i64 f.2.2.1, .string f.2.2.2] 51)).cell? ((⟨w.heap.size, 0, none⟩ : Addr).add j) = some u := by
  intro j u hu
  rw [ocells_one] at hu
  have h := Rs.new w #[.string f.1, .int .i64 f.2.1, .int .i64 f.2.2.1, .string f.2.2.2] 51 j u hu
  rw [add_plain, Nat.zero_add]
  exact h
/-- A row of entries, grown. -/
def GE (base : Nat) (v : Value) (L : List Ob) (w : World) (e : Ending) (w' : World) : Prop := ∃ v', e = .returned v' ∧ w'.ownsRow base 51 4 v' L.length (ocells L) ∧ w.grownBy w' v.ownBlock ∧ (v'.ownBlock = v.ownBlock ∨ v'.ownBlock = some w.heap.size)
theorem rfGrew {w w' : World} {b : Nat} {vs : List Value} {row : Option Nat} (h : Rf w b vs) (hg : w.grownBy w' row) (hne : some b ≠ row) (hlt : b < w.heap.size) : Rf w' b vs :=
  ⟨fun k v hk => hg.cell (h.at_ k v hk) hne, fun k => by
    have e := hg.block b hlt hne
    have h1 := h.fz k
    unfold World.frozen? at h1 ⊢
    rw [e]; exact h1⟩
/-- A sorted list: its order, its elements, in a block of its own; the row lies in blocks behind. -/
structure SL (w : World) (b : Nat) (l : List Ob) (v : Value) : Prop where
  rf : Rf w b [.func (.func 85) #[] #[], v]
  own : w.ownsRow (b + 1) 51 4 v l.length (ocells l)
  lt : b < w.heap.size
theorem SL.below {w w' : World} {b : Nat} {l : List Ob} {v : Value} (h : SL w b l v) (hb : Below w.heap.size w w') : SL w' b l v :=
  ⟨h.rf.below h.lt hb, h.own.kept (grownOfBelow hb none) (blockCases _ _ fun b c1 c2 => by cases c2), Nat.lt_of_lt_of_le h.lt hb.size⟩
/-- Behind all of a list. -/
def Last (l : List Ob) (E : Ob) : Prop := ∀ k, k < l.length → cmE (l.getD k onil) E < 0
theorem Last.cuts {l : List Ob} {E : Ob} (h : Last l E) : Cuts l E l.length := ⟨Nat.le_refl _, h, fun k h1 h2 => absurd h2 (by omega)⟩
theorem Last.hit {l : List Ob} {E : Ob} : hit l E l.length = false := by unfold En.hit; simp
/-- What add leaves. -/
def AD (b : Nat) (L : List Ob) (w : World) (e : Ending) (w' : World) : Prop := e = .returned (.tuple #[]) ∧ (∃ v', SL w' b L v') ∧ Below b w w'
end Go.Proofs.YtjcnnmnnbjaheaaGreatDoor.En
