/- Two stores put together: mathematics. No statement is proved here. -/
import Derived.Test.YthmneepbamhocakRows
import Derived.Test.YthmneepbamhocakLem
import Derived.Test.YthmneepbamhocakIdM
import Derived.Test.YthmneepbamhocakObL
import Derived.Test.YthmneepbamhocakSfC
import Derived.Test.YthmneepbamhocakGtS
import Derived.Test.YthmneepbamhocakShQ
import Derived.Test.YthmneepbamhocakShF
import Derived.Test.YthmneepbamhocakPuL
import Derived.Test.YthmneepbamhocakPuS
import Derived.Test.YthmneepbamhocakShT
namespace Go.Proofs.Ythmneepbamhocak
open Go.ChangeShapes Go.WideShapes Go.ChangeAt Go.RowKit

theorem fz_miss {l : List Ob} {id : ByteArray} (h : ∀ o ∈ l, o.1 ≠ id) : fz l id = -1 := by
  rcases fz_cases l id with e | ⟨n, e, hn, e2⟩
  · exact e
  · exact absurd e2 (h _ (ob_mem l n hn))
theorem fz_perm {M O : List Ob} {id : ByteArray} (hp : M.Perm O) : fz M id = -1 ↔ fz O id = -1 :=
  ⟨fun h => fz_miss fun o ho => fz_out h o (hp.mem_iff.2 ho), fun h => fz_miss fun o ho => fz_out h o (hp.mem_iff.1 ho)⟩
theorem ids_inj {l : List Ob} (hd : (l.map fun o => o.1).Nodup) {o p : Ob} (ho : o ∈ l) (hp : p ∈ l) (e : o.1 = p.1) : o = p := by
  induction l with
  | nil => cases ho
  | cons x t ih =>
    rw [List.map_cons, List.nodup_cons] at hd
    rcases List.mem_cons.1 ho with ho1 | ho1
    · rcases List.mem_cons.1 hp with hp1 | hp1
      · rw [ho1, hp1]
      · exact absurd (List.mem_map.2 ⟨p, hp1, by rw [← e, ho1]⟩) hd.1
    · rcases List.mem_cons.1 hp with hp1 | hp1
      · exact absurd (List.mem_map.2 ⟨o, ho1, by rw [e, hp1]⟩) hd.1
      · exact ih hd.2 ho1 hp1
theorem pC_perm {M O : List Ob} {k : Int} {d : ByteArray} (hp : M.Perm O) (hd : (O.map fun o => o.1).Nodup) : pC M k d = pC O k d := by
  rcases fz_cases O (idN k d) with e | ⟨m, e, hm, e2⟩
  · have e' := (fz_perm (id := idN k d) hp).2 e
    have hl := hp.length_eq
    by_cases h200 : 200 ≤ O.length
    · rw [(p_full e h200).1, (p_full e' (by omega)).1]
    · rw [(p_new e h200).1, (p_new e' (by omega)).1]
  · rcases fz_cases M (idN k d) with e' | ⟨n, e', hn, e2'⟩
    · have := (fz_perm (id := idN k d) hp).1 e'
      omega
    · have ho := ob_mem O m hm
      have ho' := hp.mem_iff.1 (ob_mem M n hn)
      have es : M.getD n onil = O.getD m onil := ids_inj hd ho' ho (by rw [e2, e2'])
      by_cases ed : (O.getD m onil).2.2 = d
      · rw [(p_same e ed).1, (p_same e' (by rw [es]; exact ed)).1]
      · rw [(p_other e ed).1, (p_other e' (by rw [es]; exact ed)).1]
theorem qL_perm {M O : List Ob} {k : Int} {d : ByteArray} (hp : M.Perm O) : (qL M k d).Perm (qL O k d) := by
  unfold qL
  have hl := hp.length_eq
  by_cases h : fz O (idN k d) = -1 ∧ ¬ 200 ≤ O.length
  · rw [if_pos h, if_pos ⟨(fz_perm hp).2 h.1, by omega⟩]
    exact hp.append_right _
  · rw [if_neg h, if_neg (fun q => h ⟨(fz_perm hp).1 q.1, by omega⟩)]
    exact hp
/-- The objects of the second put into the first, one by one. -/
def mgF : List Ob → List Ob → Int × List Ob
  | out, [] => (0, out)
  | out, o :: t => if pC out o.2.1 o.2.2 = 0 then mgF (pL out o.2.1 o.2.2) t else (pC out o.2.1 o.2.2, [])
theorem mgF_drop {l : List Ob} {i : Nat} (out : List Ob) (h : i < l.length) : mgF out (l.drop i) = if pC out (l.getD i onil).2.1 (l.getD i onil).2.2 = 0 then mgF (pL out (l.getD i onil).2.1 (l.getD i onil).2.2) (l.drop (i + 1)) else (pC out (l.getD i onil).2.1 (l.getD i onil).2.2, []) := by
  rw [ob_drop l i h]; rfl
theorem mgF_end {l : List Ob} {i : Nat} (out : List Ob) (h : ¬ i < l.length) : mgF out (l.drop i) = (0, out) := by
  rw [List.drop_of_length_le (by omega)]; rfl
theorem pL_len {l : List Ob} {k : Int} {d : ByteArray} (h : l.length ≤ 200) (ha : Asc l) : (pL l k d).length ≤ 200 := by
  by_cases e : pC l k d = 0
  · rw [(q_perm ha e).2.length_eq]
    exact q_len h
  · rw [show pL l k d = [] from if_neg e]; simp
theorem mgF_len : ∀ (b a : List Ob), a.length ≤ 200 → Asc a → (mgF a b).2.length ≤ 200
  | [], _, h, _ => h
  | o :: t, a, h, ha => by
    unfold mgF
    split
    · rename_i e
      exact mgF_len t _ (pL_len h ha) (q_perm ha e).1
    · simp
/-- What an object of a store without a fault is. -/
theorem sf_ob {l : List Ob} (h : sf l = 0) (k : Nat) (hk : k < l.length) : inB (l.getD k onil).2.1 1 3 = true ∧ (l.getD k onil).1 = idN (l.getD k onil).2.1 (l.getD k onil).2.2 := by
  have hF := (sf_zero h).2 k hk
  unfold obF at hF
  by_cases e : idK (l.getD k onil).2.1 (l.getD k onil).2.2 = 0
  · rw [if_pos e] at hF
    have hin : inB (l.getD k onil).2.1 1 3 = true ∧ tf (l.getD k onil).2.2 = 0 := by
      unfold idK at e
      cases q : inB (l.getD k onil).2.1 1 3 with
      | false => rw [q] at e; simp at e
      | true => rw [q] at e; exact ⟨rfl, e⟩
    by_cases e2 : idT (l.getD k onil).2.1 (l.getD k onil).2.2 = (l.getD k onil).1
    · refine ⟨hin.1, ?_⟩
      rw [← e2]
      unfold idT
      rw [if_pos hin.1, if_pos hin.2]
    · rw [if_neg e2] at hF; omega
  · rw [if_neg e] at hF; exact absurd hF e
def msR (a b : List Ob) : Int := if sf a = 0 then (if sf b = 0 then (mgF a b).1 else sf b) else sf a
def msL (a b : List Ob) : List Ob := if sf a = 0 ∧ sf b = 0 then (mgF a b).2 else []
theorem ms_a {a b : List Ob} (h : ¬ sf a = 0) : msR a b = sf a ∧ msL a b = [] := ⟨if_neg h, if_neg (fun q => h q.1)⟩
theorem ms_b {a b : List Ob} (h : sf a = 0) (e : ¬ sf b = 0) : msR a b = sf b ∧ msL a b = [] := ⟨by unfold msR; rw [if_pos h, if_neg e], if_neg (fun q => e q.2)⟩
theorem ms_m {a b : List Ob} (h : sf a = 0) (e : sf b = 0) : msR a b = (mgF a b).1 ∧ msL a b = (mgF a b).2 := ⟨by unfold msR; rw [if_pos h, if_pos e], if_pos ⟨h, e⟩⟩
end Go.Proofs.Ythmneepbamhocak
