/- The ids of a store have that of an object of the kind. Plain mathematics (of FnStores). No statement is proved here. -/
import Derived.Test.YtnififnogdekiaaRows
import Derived.Test.YtnififnogdekiaaMsLQ
import Derived.Test.YtnififnogdekiaaIsCQ
namespace Go.Proofs.Ytnififnogdekiaa
open Go.RowKit

theorem ids_in {L : List Ob} {o : Ob} (h : o ∈ L) : o.1 ∈ idsU L o.2.1 := by
  unfold idsU
  simp only [List.mem_map, List.mem_filter]
  exact ⟨o, ⟨h, by simp⟩, rfl⟩
end Go.Proofs.Ytnififnogdekiaa
