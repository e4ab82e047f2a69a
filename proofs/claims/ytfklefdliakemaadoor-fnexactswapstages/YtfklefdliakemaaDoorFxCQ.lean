/- The contracts of FilesIndex. No statement is proved here. -/
import Derived.Test.YtfklefdliakemaaDoorRows
import Derived.Test.YtfklefdliakemaaDoorLemQ
import Derived.Test.YtfklefdliakemaaDoorDTabQ
import Derived.Test.YtfklefdliakemaaDoorHkTQ
import Derived.Test.YtfklefdliakemaaDoorWvCQ
import Derived.Test.YtfklefdliakemaaDoorFmCQ
import Derived.Test.YtfklefdliakemaaDoorFlLQ
import Derived.Test.YtfklefdliakemaaDoorFfCQ
import Derived.Test.YtfklefdliakemaaDoorFfIQ
import Derived.Test.YtfklefdliakemaaDoorFfSQ
import Derived.Test.YtfklefdliakemaaDoorEnLQ
import Derived.Test.YtfklefdliakemaaDoorIxMQ
import Derived.Test.YtfklefdliakemaaDoorIxNQ
import Derived.Test.YtfklefdliakemaaDoorIxOQ
import Derived.Test.YtfklefdliakemaaDoorSgCQ
import Derived.Test.YtfklefdliakemaaDoorSgDQ
import Derived.Test.YtfklefdliakemaaDoorSlBQ
import Derived.Test.YtfklefdliakemaaDoorSlCQ
import Derived.Test.YtfklefdliakemaaDoorSlDQ
import Derived.WalkKit
import Derived.ProofKit
import Derived.Below
import Derived.WalkSpells
import Derived.Deep.QuietTactic
import Derived.BigQuiet
import Derived.Deep.RegionWith
import Derived.Deep.RegionHeld
import Derived.Deep.CutRange
import Derived.Maps.AppendAt
import Derived.Laws.Cover1
namespace Go.Proofs.YtfklefdliakemaaDoor.En
open Go.ChangeShapes Go.WideShapes Go.ChangeAt Go.RowKit

theorem OB.belowAt {B b : Nat} {w w' : World} {a : Option Addr} {l : List Ob} (h : OB B w a l) (hb : Below b w w') (hB : B ≤ b) : OB B w' a l := fun k hk => by
  obtain ⟨g, off, e, hg, d0, d1, d2, d3⟩ := h k hk
  have q : g < b := by omega
  exact ⟨g, off, e, hg, (hb.cell (p := ⟨g, _, none⟩) q).trans d0, (hb.cell (p := ⟨g, _, none⟩) q).trans d1, (hb.cell (p := ⟨g, _, none⟩) q).trans d2, (hb.cell (p := ⟨g, _, none⟩) q).trans d3⟩
theorem flBelowAt {B b : Nat} {w w' : World} {a : Option Addr} {l : List Fl.Ob} (h : Fl.OB B w a l) (hb : Below b w w') (hB : B ≤ b) : Fl.OB B w' a l := fun k hk => by
  obtain ⟨g, off, e, hg, d0, d1, d2⟩ := h k hk
  have q : g < b := by omega
  exact ⟨g, off, e, hg, (hb.cell (p := ⟨g, _, none⟩) q).trans d0, (hb.cell (p := ⟨g, _, none⟩) q).trans d1, (hb.cell (p := ⟨g, _, none⟩) q).trans d2⟩
theorem rfBelowAt {b p : Nat} {w w' : World} {vs : List Value} (h : Rf w p vs) (hb : Below b w w') (hp : p < b) : Rf w' p vs :=
  ⟨fun k v hk => (hb.cell (p := ⟨p, k, none⟩) hp).trans (h.at_ k v hk), fun k => (hb.frozen (p := ⟨p, k, none⟩) hp).trans (h.fz k)⟩
/-- An answer that is a list of entries. -/
def EP (r z : Int) (L : List Ob) (w : World) (e : Ending) (w' : World) : Prop := ∃ v, e = .returned (.agg #[.int .i64 r, .int .i64 z, v]) ∧ w'.ownsRow w.heap.size 46 4 v L.length (ocells L) ∧ Below w.heap.size w w'
theorem nilE (base : Nat) (w : World) : w.ownsRow base 46 4 (.slice none 0 0) ([] : List Ob).length (ocells []) := ⟨rfl, .inl ⟨rfl, rfl⟩⟩
theorem ret_agg3 {a b c d e f : Value} (h1 : a = d) (h2 : b = e) (h3 : c = f) : Ending.returned (.agg #[a, b, c]) = .returned (.agg #[d, e, f]) := by rw [h1, h2, h3]
def fxR (l : List Fl.Ob) : Int := Fl.ffl l
def fxU (l : List Fl.Ob) : List Ob := l.map (ent · 0)
def fxL (l : List Fl.Ob) : List Ob := if Fl.ffl l = 0 then fxU l else []
theorem fxU_take (l : List Fl.Ob) (k : Nat) (h : k < l.length) : fxU (l.take (k + 1)) = fxU (l.take k) ++ [ent (l.getD k Fl.onil) 0] := by
  unfold fxU
  rw [Fl.ob_take l k h, List.map_append]; rfl
theorem fxU_len (l : List Fl.Ob) : (fxU l).length = l.length := by simp [fxU]
theorem fxU_last {l : List Fl.Ob} (h : Fl.ffl l = 0) {k : Nat} (hk : k < l.length) : Last (fxU (l.take k)) (ent (l.getD k Fl.onil) 0) := by
  intro j hj
  rw [fxU_len, List.length_take] at hj
  have hr := (fi_rises h).2 k j (by omega) hk
  have e : (fxU (l.take k)).getD j onil = ent (l.getD j Fl.onil) 0 := by
    unfold fxU
    have h1 : j < l.length := by omega
    simp [List.getD, List.getElem?_take_of_lt (show j < k by omega), h1]
  rw [e, cmE_lt]
  exact .inl hr
set_option maxHeartbeats 1000000 in
theorem indexNilC (w : World) : Calls Tryd.prog 29 #[.slice none 0 0] w fun e w' => e = .returned (.pointer (some ⟨w.heap.size, 0, none⟩)) ∧ SL w' w.heap.size [] (.slice none 0 0) ∧ Below w.heap.size w w' := by
  go_enter Tryd.func29, Tryd.ntmps29
  go_wp2
  go_loopw [5, 10] (fun _o i wr => i = .int .i64 0 ∧ wr = w.alloc (.cells #[.func (.func 55) #[] #[], .slice none 0 0] 62)) (fun _ _ _ => 0)
  case atStart => exact ⟨rfl, rfl⟩
  case round =>
    obtain ⟨rfl, rfl⟩ := hrel
    go_wp2
    go_ret
    exact ⟨rfl, ⟨Rf.new _ _ _, nilE _ _, by simp⟩, allocBelow _ _⟩
end Go.Proofs.YtfklefdliakemaaDoor.En
