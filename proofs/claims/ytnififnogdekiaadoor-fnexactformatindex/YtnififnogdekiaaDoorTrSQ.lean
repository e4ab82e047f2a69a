/- The contracts of l6Tree and the specification's TreeFault. No statement is proved here. -/
import Derived.Test.YtnififnogdekiaaDoorRows
import Derived.Test.YtnififnogdekiaaDoorLemQ
import Derived.Test.YtnififnogdekiaaDoorInQ
import Derived.Test.YtnififnogdekiaaDoorDTabQ
import Derived.Test.YtnififnogdekiaaDoorHkTQ
import Derived.Test.YtnififnogdekiaaDoorTFQ
import Derived.Test.YtnififnogdekiaaDoorSplQ
import Derived.Test.YtnififnogdekiaaDoorIdLQ
import Derived.Test.YtnififnogdekiaaDoorTeLQ
import Derived.Test.YtnififnogdekiaaDoorTrCQ
import Derived.Test.YtnififnogdekiaaDoorTrWQ
import Derived.WalkKit
import Derived.ProofKit
import Derived.Below
import Derived.WalkSpells
import Derived.Laws.Concat
import Derived.Deep.RegionWith
import Derived.Deep.RegionHeld3
import Derived.Deep.QuietTactic
import Derived.BigQuiet
namespace Go.Proofs.YtnififnogdekiaaDoor.Te
open Go.ChangeShapes Go.WideShapes Go.ChangeAt Go.RowKit

theorem word_cell (w : World) (t : TypeId) (vs : Array Value) (k : Nat) (v : Value) (h : vs.toList[k]? = some v) : (w.alloc (.cells vs t)).cell? ⟨w.heap.size, k, none⟩ = some v := Rs.new w vs t k v h

theorem l6WordsD (w : World) : Calls Tryd.prog 94 #[] w.drew fun e w' => e = .returned (.slice (some ⟨w.heap.size, 0, none⟩) 4 4) ∧ Below w.heap.size w w' ∧ w'.cell? ⟨w.heap.size, 1, none⟩ = some (.string ⟨#[102, 105, 108, 101]⟩) ∧ w'.cell? ⟨w.heap.size, 2, none⟩ = some (.string ⟨#[114, 117, 110]⟩) ∧ w'.cell? ⟨w.heap.size, 3, none⟩ = some (.string ⟨#[116, 114, 101, 101]⟩) := by
  refine (l6Words w.drew).mono ?_
  rintro e w1 ⟨rfl, rfl⟩
  exact ⟨rfl, (below_drew (Below.refl _ _)).trans (allocBelow w.drew _), word_cell w.drew _ _ 1 _ rfl, word_cell w.drew _ _ 2 _ rfl, word_cell w.drew _ _ 3 _ rfl⟩
theorem keep3 {w w1 : World} {g o : Nat} {v : Value} (b : Below w.heap.size w w1) (hg : g < w.heap.size) (h : w.cell? ⟨g, o, none⟩ = some v) : w1.cell? ⟨g, o, none⟩ = some v := (b.cell (p := ⟨g, o, none⟩) hg).trans h

theorem takeD {P : Program} {md : Region.Mode} {ops : Array Oper} {Q : Exit → Act → World → Prop} {S : World → Prop} {i d : Nat} {oi : Oper} {v : Value} {fuel : Nat} {listed listed' : Array Bool} {a : Act} {w : World} (hi : ops[i]? = some oi)
    (hs : Region.noSelect ops = true) (hf : Region.free md ops listed i = true) (hr : (Region.ready md ops listed).contains i = true)
    (hQ : ∀ c a w, Q (.panic c) (a.put oi.dst v) w → Q (.panic c) a w) (hy : YieldsIf P ops S oi v a) (hS : S w) (hd : oi.dst = some d) (hl : listed.setIfInBounds i true = listed')
    (h : wpAnyH P md ops Q S fuel listed' (a.put (some d) v) w) : wpAnyH P md ops Q S (fuel + 1) listed a w := by
  subst hl
  exact wpAnyH_take hi hs hf hr hQ hy hS (by rw [hd]; exact h)
theorem moreS {P : Program} {md : Region.Mode} {ops : Array Oper} {Q : Exit → Act → World → Prop} {S S' : World → Prop} (hSS : ∀ w, S' w → S w) : ∀ (fuel : Nat) (listed : Array Bool) (a : Act) (w : World), wpAnyH P md ops Q S' fuel listed a w → wpAnyH P md ops Q S fuel listed a w
  | 0, _, _, _, h => h
  | fuel + 1, _, _, _, h => ⟨h.1, fun i hi => wpOp_mono (fun a' w' h' => ⟨hSS _ h'.1, moreS hSS fuel _ a' w' h'.2⟩) (h.2 i hi)⟩

end Go.Proofs.YtnififnogdekiaaDoor.Te
