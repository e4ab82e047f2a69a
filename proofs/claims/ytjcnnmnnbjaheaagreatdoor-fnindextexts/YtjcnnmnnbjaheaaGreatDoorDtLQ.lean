/- The text of a tree read back: what both readers make of a text, and that it is the same. No statement is proved here. -/
import Derived.Test.YtjcnnmnnbjaheaaGreatDoorRows
import Derived.Test.YtjcnnmnnbjaheaaGreatDoorLemQ
import Derived.Test.YtjcnnmnnbjaheaaGreatDoorLFLemQ
import Derived.Test.YtjcnnmnnbjaheaaGreatDoorCutLQ
import Derived.Test.YtjcnnmnnbjaheaaGreatDoorXtFQ
import Derived.Test.YtjcnnmnnbjaheaaGreatDoorIterQ
import Derived.Test.YtjcnnmnnbjaheaaGreatDoorIdLQ
import Derived.Test.YtjcnnmnnbjaheaaGreatDoorTeLQ
import Derived.Test.YtjcnnmnnbjaheaaGreatDoorWwCQ
import Derived.Test.YtjcnnmnnbjaheaaGreatDoorTrWQ
namespace Go.Proofs.YtjcnnmnnbjaheaaGreatDoor.Te

/-- The mode of a word. -/
def md (w : List UInt8) : Int := if w = [102, 105, 108, 101] then 1 else if w = [114, 117, 110] then 2 else if w = [116, 114, 101, 101] then 3 else 0
theorem wd_md {w : List UInt8} (h : ¬ md w = 0) : (wd (md w)).data.toList = w := by
  unfold md at h ⊢
  by_cases h1 : w = [102, 105, 108, 101]
  · rw [if_pos h1, h1]; rfl
  · rw [if_neg h1] at h ⊢
    by_cases h2 : w = [114, 117, 110]
    · rw [if_pos h2, h2]; rfl
    · rw [if_neg h2] at h ⊢
      by_cases h3 : w = [116, 114, 101, 101]
      · rw [if_pos h3, h3]; rfl
      · rw [if_neg h3] at h; exact absurd rfl h
theorem md_wd {m : Int} (h : m = 1 ∨ m = 2 ∨ m = 3) : md (wd m).data.toList = m := by
  rcases h with rfl | rfl | rfl <;> rfl
/-- What the program makes of a line. -/
def pEnt (x : List UInt8) : Ob := (mkB (aft (aft (trimL x))), md (bef (trimL x)), mkB (bef (aft (trimL x))))
/-- What the specification makes of a line. -/
def sEnt (x : List UInt8) : Option Ob := if x.getLast? = some 10 then (match cutL 32 x.dropLast with
    | [a, b, c] => some (mkB c, md a, mkB b)
    | _ => none) else none
def sAll : List (List UInt8) → Option (List Ob)
  | [] => some []
  | x :: xs => match sEnt x with
    | none => none
    | some o => match sAll xs with
      | none => none
      | some os => some (o :: os)
theorem s_p {x : List UInt8} {o : Ob} (h : sEnt x = some o) : pEnt x = o ∧ (¬ o.2.1 = 0 → el o = x) := by
  unfold sEnt at h
  by_cases hl : x.getLast? = some 10
  · rw [if_pos hl] at h
    have hx := last_snoc hl
    generalize hy : x.dropLast = y at h hx
    cases e : cutL 32 y with
    | nil => rw [e] at h; cases h
    | cons a t =>
      cases t with
      | nil => rw [e] at h; cases h
      | cons b t =>
        cases t with
        | nil => rw [e] at h; cases h
        | cons c t =>
          cases t with
          | cons d t => rw [e] at h; cases h
          | nil =>
            rw [e] at h
            have ho := (Option.some.inj h).symm
            obtain ⟨e1, n1, n2, n3⟩ := cut3 e
            have f1 := bef_app (b ++ 32 :: c) n1
            have f2 := bef_app c n2
            subst ho
            rw [hx]
            refine ⟨?_, fun hm => ?_⟩
            · unfold pEnt
              rw [trim_snoc, e1, f1.1, f1.2, f2.1, f2.2]
            · unfold el
              simp only [mkB_data] at hm ⊢
              rw [wd_md hm, e1]
              simp
  · rw [if_neg hl] at h; cases h
theorem nf_bytes {s : ByteArray} (h : nf s = 0) : ∀ c ∈ s.data.toList, nmB c = true := by
  unfold nf at h
  split at h
  · rename_i q
    intro c hc
    obtain ⟨k, hk, e⟩ := List.mem_iff_getElem.1 hc
    have hk' : k < s.size := by simpa using hk
    have := q.2.2.2.2 k hk'
    rw [← e]; exact this
  · cases h
theorem nm_no {c : UInt8} (h : nmB c = true) : ¬ c = 32 ∧ ¬ c = 10 := by
  constructor <;> intro e <;> subst e <;> revert h <;> decide
theorem id_bytes {k : Int} {s : ByteArray} (h : isOf k s = true) : ∀ c ∈ s.data.toList, ¬ c = 32 ∧ ¬ c = 10 := by
  have hb : idB s.data.toList = true := by
    unfold isOf at h
    simp only [Bool.and_eq_true] at h
    exact h.1
  obtain ⟨a, b, c, d, e, rfl⟩ := id5 hb
  have hb' : (isLet a && (isHex b && (isHex c && (isHex d && isHex e)))) = true := hb
  simp only [Bool.and_eq_true] at hb'
  obtain ⟨ha, hbb, hc, hd, he⟩ := hb'
  have H : ∀ x : UInt8, isHex x = true → ¬ x = 32 ∧ ¬ x = 10 := fun x hx => by constructor <;> intro e <;> subst e <;> revert hx <;> decide
  have L : ∀ x : UInt8, isLet x = true → ¬ x = 32 ∧ ¬ x = 10 := fun x hx => by constructor <;> intro e <;> subst e <;> revert hx <;> decide
  intro x hx
  have hx' : x = a ∨ x = b ∨ x = c ∨ x = d ∨ x = e := by simpa using hx
  rcases hx' with rfl | rfl | rfl | rfl | rfl
  · exact L _ ha
  · exact H _ hbb
  · exact H _ hc
  · exact H _ hd
  · exact H _ he
theorem wd_bytes {m : Int} (h : m = 1 ∨ m = 2 ∨ m = 3) : ∀ c ∈ (wd m).data.toList, ¬ c = 32 ∧ ¬ c = 10 := by
  rcases h with rfl | rfl | rfl
  · decide
  · decide
  · decide
theorem el_s {o : Ob} (h : ef o.1 o.2.1 o.2.2 = 0) : sEnt (el o) = some o := by
  obtain ⟨h0, h1, h2⟩ := ef_zero h
  have hm := inB13 h1
  have a0 : ¬ (32 : UInt8) ∈ (wd o.2.1).data.toList := fun q => (wd_bytes hm _ q).1 rfl
  have a1 : ¬ (32 : UInt8) ∈ o.2.2.data.toList := fun q => (id_bytes h2 _ q).1 rfl
  have a2 : ¬ (32 : UInt8) ∈ o.1.data.toList := fun q => (nm_no (nf_bytes h0 _ q)).1 rfl
  have e : el o = ((wd o.2.1).data.toList ++ 32 :: (o.2.2.data.toList ++ 32 :: o.1.data.toList)) ++ [10] := by simp [el]
  unfold sEnt
  rw [e, if_pos (by rw [List.getLast?_append]; rfl), List.dropLast_concat, cut_at _ a0, cut_at _ a1, cut_none a2]
  show some _ = some o
  rw [mkB_eq, mkB_eq, md_wd hm]
theorem el_spl {o : Ob} (h : ef o.1 o.2.1 o.2.2 = 0) (r : List UInt8) : spl (el o ++ r) = el o :: spl r := by
  obtain ⟨h0, h1, h2⟩ := ef_zero h
  have hm := inB13 h1
  have e : el o = ((wd o.2.1).data.toList ++ 32 :: (o.2.2.data.toList ++ 32 :: o.1.data.toList)) ++ [10] := by simp [el]
  have n : ¬ (10 : UInt8) ∈ (wd o.2.1).data.toList ++ 32 :: (o.2.2.data.toList ++ 32 :: o.1.data.toList) := fun q => by
    rcases List.mem_append.1 q with q | q
    · exact (wd_bytes hm _ q).2 rfl
    · rcases List.mem_cons.1 q with q | q
      · revert q; decide
      · rcases List.mem_append.1 q with q | q
        · exact (id_bytes h2 _ q).2 rfl
        · rcases List.mem_cons.1 q with q | q
          · revert q; decide
          · exact (nm_no (nf_bytes h0 _ q)).2 rfl
  rw [e, List.append_assoc]
  exact spl_feed _ r n
theorem tr_spl : ∀ {l : List Ob}, (∀ o ∈ l, ef o.1 o.2.1 o.2.2 = 0) → spl (trL l) = l.map el ∧ sAll (spl (trL l)) = some l
  | [], _ => by simp [trL, spl, sAll]
  | o :: l, h => by
    have ih := tr_spl (l := l) (fun q hq => h q (List.mem_cons_of_mem _ hq))
    have ho := h o List.mem_cons_self
    have e : trL (o :: l) = el o ++ trL l := by simp [trL]
    rw [e, el_spl ho]
    refine ⟨by rw [ih.1]; rfl, ?_⟩
    simp only [sAll, el_s ho, ih.2]
theorem all_p : ∀ {xs : List (List UInt8)} {l : List Ob}, sAll xs = some l → xs.map pEnt = l ∧ ((∀ o ∈ l, ¬ o.2.1 = 0) → l.map el = xs)
  | [], l, h => by simp only [sAll, Option.some.injEq] at h; subst h; exact ⟨rfl, fun _ => rfl⟩
  | x :: xs, l, h => by
    simp only [sAll] at h
    cases e : sEnt x with
    | none => rw [e] at h; cases h
    | some o =>
      rw [e] at h
      cases e2 : sAll xs with
      | none => rw [e2] at h; cases h
      | some os =>
        rw [e2] at h
        obtain rfl := Option.some.inj h
        obtain ⟨h1, h2⟩ := s_p e
        obtain ⟨h3, h4⟩ := all_p e2
        refine ⟨by rw [List.map_cons, h1, h3], fun hm => ?_⟩
        rw [List.map_cons, h2 (hm o List.mem_cons_self), h4 (fun q hq => hm q (List.mem_cons_of_mem _ hq))]
/-- What is read of a text: the same by both. -/
def dtP (d : ByteArray) : List Ob := (spl d.data.toList).map pEnt
def dtI (d : ByteArray) : Bool := decide (tf d = 0) && (decide (tfl (dtP d) = 0) && decide (trB (dtP d) = d))
def dtS (d : ByteArray) : Bool := match sAll (spl d.data.toList) with
  | none => false
  | some l => decide (tfl l = 0)
theorem dtS_some {d : ByteArray} {l : List Ob} (h : sAll (spl d.data.toList) = some l) : dtS d = decide (tfl l = 0) := by unfold dtS; rw [h]
theorem dtS_none {d : ByteArray} (h : sAll (spl d.data.toList) = none) : dtS d = false := by unfold dtS; rw [h]
theorem tfl_fineD {l : List Ob} (h : tfl l = 0) : Fine l ∧ l.length ≤ 100 := by
  have h0 : trE l = 0 := by
    by_cases e : trE l = 0
    · exact e
    · rw [tfl_bad e] at h; exact absurd h e
  have hm : ¬ 100 < l.length := fun h' => by rw [trE_many h'] at h0; omega
  refine ⟨fun j hj => ?_, by omega⟩
  have key : ∀ n, n ≤ l.length → ∀ j, j < n → teF l j = 0 := by
    intro n
    induction n with
    | zero => intro _ j hj; omega
    | succ n ih =>
      intro hn j hj
      by_cases e : j < n
      · exact ih (by omega) j e
      · have e' : j = n := by omega
        subst e'
        by_cases hb : teF l j = 0
        · exact hb
        · rw [trE_bad hm (by omega) (ih (by omega)) hb] at h0
          exact h0
  exact teF_ef (key l.length (Nat.le_refl _) j hj)
theorem dt_fine {l : List Ob} (h : tfl l = 0) : ∀ o ∈ l, ef o.1 o.2.1 o.2.2 = 0 := by
  intro o ho
  obtain ⟨k, hk, e⟩ := List.mem_iff_getElem.1 ho
  have := (tfl_fineD h).1 k hk
  rw [show l.getD k onil = o by simp [List.getD, hk, e]] at this
  exact this
theorem dt_same (d : ByteArray) : dtI d = dtS d := by
  cases hS : sAll (spl d.data.toList) with
  | some l =>
    rw [dtS_some hS]
    obtain ⟨h1, h2⟩ := all_p hS
    have hP : dtP d = l := h1
    unfold dtI
    rw [hP]
    by_cases h0 : tfl l = 0
    · have hf := dt_fine h0
      have hm : ∀ o ∈ l, ¬ o.2.1 = 0 := fun o ho => by
        obtain ⟨_, q, _⟩ := ef_zero (hf o ho)
        rcases inB13 q with e | e | e <;> rw [e] <;> decide
      have ht : trB l = d := by
        apply bytes_inj2
        rw [ByteArray.toList_eq, ByteArray.toList_eq]
        show trL l = _
        unfold trL
        rw [List.flatMap_def, h2 hm, spl_join]
      have he : trE l = 0 := by
        by_cases e : trE l = 0
        · exact e
        · rw [tfl_bad e] at h0; exact absurd h0 e
      have htf : tf d = 0 := by rw [← ht, ← tfl_ok he]; exact h0
      simp [h0, ht, htf]
    · simp [h0]
  | none =>
    rw [dtS_none hS]
    cases hI : dtI d with
    | false => rfl
    | true =>
      unfold dtI at hI
      simp only [Bool.and_eq_true, decide_eq_true_eq] at hI
      obtain ⟨_, h0, ht⟩ := hI
      have e := (tr_spl (dt_fine h0)).2
      have hd : trL (dtP d) = d.data.toList := congrArg (fun b : ByteArray => b.data.toList) ht
      rw [← hd, e] at hS
      cases hS
end Go.Proofs.YtjcnnmnnbjaheaaGreatDoor.Te
