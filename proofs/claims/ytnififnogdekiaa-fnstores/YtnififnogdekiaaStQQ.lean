/- What FnStores asks, behind a put that tells no code. Plain mathematics. No statement is proved here. -/
import Derived.Test.YtnififnogdekiaaRows
import Derived.Test.YtnififnogdekiaaMsLQ
import Derived.Test.YtnififnogdekiaaStPQ
import Derived.Test.YtnififnogdekiaaIsCQ
import Derived.Test.YtnififnogdekiaaPuPQ
import Derived.Test.YtnififnogdekiaaShQQ
import Derived.Test.YtnififnogdekiaaGtSQ
import Derived.Test.YtnififnogdekiaaDraw12Q
namespace Go.Proofs.Ytnififnogdekiaa
open Go.RowKit

structure FsA (l : List Ob) (k : Int) (d : ByteArray) (L : List Ob) (I : ByteArray) : Prop where
  fault : sf L = 0
  got : goR L k I = 0 ∧ goO L k I = (I, k, d)
  again : poR L k d = 0 ∧ poL L k d = L
  each : ∀ o ∈ l, goR L o.2.1 o.1 = 0 ∧ goO L o.2.1 o.1 = o
  isid : idB I.data.toList = true
  ids : idsR L k = 0 ∧ idsL L k = idsU L k ∧ I ∈ idsU L k
  twin : ∀ d', dig d'.data.toList = dig d.data.toList → d' ≠ d → tf d' = 0 → poR L k d' = 6
  small : ∀ o ∈ L, o ∈ l ∨ o = (I, k, d)
  len : L.length ≤ 200
theorem fs_all {l : List Ob} {k : Int} {d : ByteArray} (h : poR l k d = 0) : FsA l k d (poL l k d) (poS l k d) := by
  have h0 : sf l = 0 := by
    by_cases e : sf l = 0
    · exact e
    · rw [(po_f e).1] at h; exact absurd h e
  have hK : idK k d = 0 := by
    by_cases e : idK k d = 0
    · exact e
    · rw [(po_k h0 e).1] at h; exact absurd h e
  obtain ⟨e1, e2, e3⟩ := po_p h0 hK
  rw [e1] at h
  have hk : inB k 1 3 = true := by
    cases e : inB k 1 3 with
    | true => rfl
    | false => unfold idK at hK; rw [e] at hK; simp at hK
  have ht : tf d = 0 := by unfold idK at hK; rw [if_pos hk] at hK; exact hK
  have eS : poS l k d = idN k d := by rw [e3]; unfold pS; rw [if_pos h]
  rw [e2, eS]
  obtain ⟨a1, a2, a3, a4, a5, a6⟩ := st_all h0 hk ht h
  have ho : goodO (idN k d, k, d) := ⟨hk, ht, rfl⟩
  obtain ⟨r1, r2⟩ := pc_zero (o := (idN k d, k, d)) ho (sf_good h0) (asc_of h0) h
  have gR : goR (pL l k d) k (idN k d) = 0 := by unfold goR; rw [if_pos a1, if_pos hk, a2]; rfl
  have iR : idsR (pL l k d) k = 0 := by unfold idsR; rw [if_pos a1, if_pos hk]
  refine ⟨a1, ⟨gR, by unfold goO; rw [if_pos gR, a2]; rfl⟩, ?_, ?_, idB_idN k d, ⟨iR, if_pos iR, ids_in a6⟩, ?_, fun o ho => (r2 o).1 ho, by have := (sf_zero a1).1; omega⟩
  · obtain ⟨q1, q2, _⟩ := po_p (l := pL l k d) a1 hK
    exact ⟨q1.trans a3, q2.trans a4⟩
  · intro o q
    have hg := a5 o q
    have hin := (sf_good h0 o q).1
    have e1 : goR (pL l k d) o.2.1 o.1 = 0 := by unfold goR; rw [if_pos a1, if_pos hin, hg]; rfl
    exact ⟨e1, by unfold goO; rw [if_pos e1, hg]; rfl⟩
  · intro d' hd hne ht'
    have hK' : idK k d' = 0 := by unfold idK; rw [if_pos hk]; exact ht'
    rw [(po_p (l := pL l k d) a1 hK').1]
    exact st_twin r1 a6 (idN_dig hd) hne
theorem fs_small {l : List Ob} {k : Int} {d : ByteArray} {L : List Ob} {I : ByteArray} (h : FsA l k d L I) (hs : SmO l) (hd : d.size ≤ 4096) (hI : I.size ≤ 10) : SmallO L ∧ L.length ≤ 1048576 := by
  refine ⟨fun o ho => ?_, by have := h.len; omega⟩
  rcases h.small o ho with q | rfl
  · have := hs.2 o q; omega
  · simp only []; omega
end Go.Proofs.Ytnififnogdekiaa
