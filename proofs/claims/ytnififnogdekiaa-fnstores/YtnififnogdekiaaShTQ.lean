/- The contract of the program's put, whole. No statement is proved here. -/
import Derived.Test.YtnififnogdekiaaRows
import Derived.Test.YtnififnogdekiaaLemQ
import Derived.Test.YtnififnogdekiaaHkTQ
import Derived.Test.YtnififnogdekiaaIdMQ
import Derived.Test.YtnififnogdekiaaObLQ
import Derived.Test.YtnififnogdekiaaSfCQ
import Derived.Test.YtnififnogdekiaaGtSQ
import Derived.Test.YtnififnogdekiaaShMQ
import Derived.Test.YtnififnogdekiaaShPQ
import Derived.Test.YtnififnogdekiaaShQQ
import Derived.Test.YtnififnogdekiaaShRQ
import Derived.Test.YtnififnogdekiaaPuLQ
import Derived.Test.YtnififnogdekiaaPuSQ
namespace Go.Proofs.Ytnififnogdekiaa
open Go.ChangeShapes Go.WideShapes Go.ChangeAt Go.RowKit

/-- What a shelf holds behind a put. -/
def qL (l : List Ob) (k : Int) (d : ByteArray) : List Ob := if fz l (idN k d) = -1 ∧ ¬ 200 ≤ l.length then l ++ [(idN k d, k, d)] else l
theorem idN_size (k : Int) (d : ByteArray) : (idN k d).size = 5 := idB_size (idB_idN k d)
theorem putW (p b : Nat) (l : List Ob) (k : Int) (d : ByteArray) (w : World) (hR : Rf w p [.map (some b), .int .i64 (l.length : Int)]) (hbp : b < p) (hp : p < w.heap.size) (hS : Sh w b l) :
    Calls Try.prog 40 #[.pointer (some ⟨p, 0, none⟩), .agg #[.string (idN k d), .int .i64 k, .string d]] w fun e w' => e = .returned (.int .i64 (pC l k d)) ∧ Rf w' p [.map (some b), .int .i64 ((qL l k d).length : Int)] ∧ Sh w' b (qL l k d) ∧ Below b w w' ∧ w.heap.size ≤ w'.heap.size ∧ PK b p w w' := by
  rcases fz_cases l (idN k d) with e | ⟨n, e, hn, e2⟩
  · by_cases h200 : 200 ≤ l.length
    · have hq : qL l k d = l := if_neg (fun q => q.2 h200)
      rw [hq, (p_full e h200).1]
      exact putOld p b l (idN k d) d ⟨#[]⟩ ⟨#[]⟩ k 0 2 false w hR hbp hp hS (idN_size k d) (fun w h => h.miss (idN_size k d) (fz_out e)) (fun h => by cases h) (fun _ => ⟨rfl, h200⟩)
    · have hq : qL l k d = l ++ [(idN k d, k, d)] := if_pos ⟨e, h200⟩
      rw [hq, (p_new e h200).1, List.length_append]
      exact putNew p b l (idN k d) d k w hR hbp hp hS (idN_size k d) (fz_out e) (by omega)
  · have hq : qL l k d = l := if_neg (fun q => by have := q.1; omega)
    rw [hq]
    have hm := ob_mem l n hn
    obtain ⟨o, ho⟩ : ∃ o, l.getD n onil = o := ⟨_, rfl⟩
    have hs := fun h => (p_same (l := l) (k := k) (d := d) e h).1
    have ht := fun h => (p_other (l := l) (k := k) (d := d) e h).1
    rw [ho] at e2 hm hs ht
    have hlk : ∀ w, Sh w b l → (Instr.lookup 76 (.map (some b)) (kv (idN k d)) true).run Try.prog w = .ok (.tuple #[.agg #[.string o.1, .int .i64 o.2.1, .string o.2.2], .bool true]) w := fun w h => by
      have := h.hit hm
      rw [e2] at this
      rw [this]; unfold obV; rw [e2]
    refine putOld p b l (idN k d) d o.1 o.2.2 k o.2.1 (pC l k d) true w hR hbp hp hS (idN_size k d) hlk (fun _ => ?_) (fun h => by cases h)
    by_cases ed : o.2.2 = d
    · rw [if_pos ed, hs ed]
    · rw [if_neg ed, ht ed]
/-- What the shelf holds, and what is told of it. -/
theorem q_perm {l : List Ob} {k : Int} {d : ByteArray} (ha : Asc l) (h : pC l k d = 0) : Asc (pL l k d) ∧ (pL l k d).Perm (qL l k d) := by
  rcases fz_cases l (idN k d) with e | ⟨n, e, hn, e2⟩
  · by_cases h200 : 200 ≤ l.length
    · rw [(p_full e h200).1] at h; omega
    · rw [(p_new e h200).2.1, show qL l k d = l ++ [(idN k d, k, d)] from if_pos ⟨e, h200⟩]
      exact ⟨insO_asc ha (fz_out e), insO_perm _ _⟩
  · have hq : qL l k d = l := if_neg (fun q => by have := q.1; omega)
    rw [hq]
    by_cases ed : (l.getD n onil).2.2 = d
    · rw [(p_same e ed).2.1]
      exact ⟨ha, List.Perm.refl _⟩
    · rw [(p_other e ed).1] at h; omega
theorem q_len {l : List Ob} {k : Int} {d : ByteArray} (h : l.length ≤ 200) : (qL l k d).length ≤ 200 := by
  unfold qL
  split
  · rename_i q
    simp; omega
  · exact h
theorem q_small {l : List Ob} {k : Int} {d : ByteArray} (h : SmallO l) (hd : d.size ≤ 1048576) : SmallO (qL l k d) := by
  unfold qL
  split
  · intro o ho
    rcases List.mem_append.1 ho with ho | ho
    · exact h o ho
    · cases List.mem_singleton.1 ho
      have := idN_size k d
      exact ⟨by show (idN k d).size ≤ _; omega, hd⟩
  · exact h
end Go.Proofs.Ytnififnogdekiaa
