/- The files of the entries of one stage: the contracts of filesAtStage and l10Stage, of StageFiles. No statement is proved here. -/
import Derived.Test.YtfklefdliakemaaDoorRows
import Derived.Test.YtfklefdliakemaaDoorLemQ
import Derived.Test.YtfklefdliakemaaDoorDTabQ
import Derived.Test.YtfklefdliakemaaDoorHkTQ
import Derived.Test.YtfklefdliakemaaDoorWvCQ
import Derived.Test.YtfklefdliakemaaDoorFmCQ
import Derived.Test.YtfklefdliakemaaDoorFlLQ
import Derived.Test.YtfklefdliakemaaDoorEnLQ
import Derived.Test.YtfklefdliakemaaDoorIxMQ
import Derived.Test.YtfklefdliakemaaDoorIxIQ
import Derived.Test.YtfklefdliakemaaDoorIxSQ
import Derived.WalkKit
import Derived.ProofKit
import Derived.Below
import Derived.WalkSpells
import Derived.Deep.QuietTactic
import Derived.BigQuiet
import Derived.Deep.RegionWith
import Derived.Deep.RegionHeld
import Derived.Deep.CutRange
import Derived.Maps.AppendAt
import Derived.Laws.Cover1
namespace Go.Proofs.YtfklefdliakemaaDoor.En
open Go.ChangeShapes Go.WideShapes Go.ChangeAt Go.RowKit

/-- The file of an entry; the files of a stage. -/
def fil (o : Ob) : Fl.Ob := (o.1, o.2.2.1, o.2.2.2)
def stg (l : List Ob) (s : Int) : List Fl.Ob := (l.filter fun o => o.2.1 == s).map fil
theorem stg_yes (l : List Ob) (s : Int) (k : Nat) (h : k < l.length) (e : (l.getD k onil).2.1 = s) : stg (l.take (k + 1)) s = stg (l.take k) s ++ [fil (l.getD k onil)] := by
  unfold stg
  rw [ob_take l k h, List.filter_append, List.map_append]
  congr 1
  rw [List.filter_cons_of_pos (by rw [e]; simp)]
  rfl
theorem stg_no (l : List Ob) (s : Int) (k : Nat) (h : k < l.length) (e : ¬ (l.getD k onil).2.1 = s) : stg (l.take (k + 1)) s = stg (l.take k) s := by
  unfold stg
  rw [ob_take l k h, List.filter_append, List.filter_cons_of_neg (by simpa using e)]
  simp
theorem stg_len (l : List Ob) (s : Int) : (stg l s).length ≤ l.length := by
  unfold stg
  rw [List.length_map]
  exact List.length_filter_le _ _
theorem stg_take_len (l : List Ob) (s : Int) (k : Nat) : (stg (l.take k) s).length ≤ l.length := by
  have h1 := stg_len (l.take k) s
  rw [List.length_take] at h1
  omega
/-- An append of files onto a row that is owned. -/
theorem oneF (l : List Fl.Ob) : ∀ u ∈ Fl.ocells l, u.oneCell' = true := by
  intro u hu
  unfold Fl.ocells Fl.rowG at hu
  obtain ⟨j, _, rfl⟩ := List.mem_map.1 hu
  unfold Fl.ocell
  split
  · rfl
  · split <;> rfl
theorem newF (w : World) (f : Fl.Ob) : ∀ j u, (Fl.ocells [f])[j]? = some u → (w.alloc (.cells #[.string f.1, .int .i64 f.2.1, .string f.2.2] 59)).cell? ((⟨w.heap.size, 0, none⟩ : Addr).add j) = some u := by
  intro j u hu
  rw [Fl.ocells_one] at hu
  have h := Rs.new w #[.string f.1, .int .i64 f.2.1, .string f.2.2] 59 j u hu
  rw [add_plain, Nat.zero_add]
  exact h
theorem setCell_id {w : World} {b i : Nat} {v : Value} (h : w.cell? ⟨b, i, none⟩ = some v) : w.setCell ⟨b, i, none⟩ v = w := by
  have hh : (w.setCell ⟨b, i, none⟩ v).heap = w.heap := by
    apply Array.ext_getElem?
    intro k
    by_cases e : b = k
    · subst e
      cases ho : w.heap[b]? with
      | none => simp [World.setCell, Array.getElem?_modify, ho]
      | some o =>
        cases o with
        | cells c t fr =>
          have hc : c[i]? = some v := by simpa [World.cell?, ho] using h
          have hs : c.setIfInBounds i v = c := by
            apply Array.ext_getElem?
            intro j
            rw [Array.getElem?_setIfInBounds]
            by_cases q : i = j
            · subst q
              rw [if_pos rfl, hc, if_pos (Array.getElem?_eq_some_iff.1 hc).1]
            · rw [if_neg q]
          simp [World.setCell, Array.getElem?_modify, ho, hs]
        | _ => simp [World.setCell, Array.getElem?_modify, ho]
    · simp [World.setCell, Array.getElem?_modify, e]
  cases w
  simp only [World.setCell] at hh ⊢
  rw [hh]
set_option maxHeartbeats 1000000 in
theorem fileInC (o : Ob) (w : World) : Calls Tryd.prog 38 #[.agg #[.string o.1, .int .i64 o.2.1, .int .i64 o.2.2.1, .string o.2.2.2]] w fun e w' => e = .returned (.agg #[.string o.1, .int .i64 o.2.2.1, .string o.2.2.2]) ∧ Below w.heap.size w w' := by
  obtain ⟨x0, x1, x2, x3⟩ := o
  simp only []
  go_enter Tryd.func38, Tryd.ntmps38
  go_wp2
  refine bodyPost_ret (v := .agg #[.string x0, .int .i64 x2, .string x3]) (by simp [results, Tryd.results38, go_sem]) rfl ⟨rfl, ?_⟩
  exact ((Below.refl _ _).alloc (Nat.le_refl _) _).alloc (by simp) _
/-- What is answered: files in memory of their own. -/
def SF (L : List Fl.Ob) (w : World) (e : Ending) (w' : World) : Prop := ∃ v, e = .returned v ∧ w'.ownsRow w.heap.size 59 3 v L.length (Fl.ocells L) ∧ Below w.heap.size w w'
theorem nilF (base : Nat) (w : World) : w.ownsRow base 59 3 (.slice none 0 0) ([] : List Fl.Ob).length (Fl.ocells []) := ⟨rfl, .inl ⟨rfl, rfl⟩⟩
end Go.Proofs.YtfklefdliakemaaDoor.En
