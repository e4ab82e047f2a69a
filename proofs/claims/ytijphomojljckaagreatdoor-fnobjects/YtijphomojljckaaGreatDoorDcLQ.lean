/- The text of a commit read back: what both readers make of a text, and that it is the same. No statement is proved here. -/
import Derived.Test.YtijphomojljckaaGreatDoorRows
import Derived.Test.YtijphomojljckaaGreatDoorLemQ
import Derived.Test.YtijphomojljckaaGreatDoorLFLemQ
import Derived.Test.YtijphomojljckaaGreatDoorCutLQ
import Derived.Test.YtijphomojljckaaGreatDoorIterQ
import Derived.Test.YtijphomojljckaaGreatDoorIdLQ
import Derived.Test.YtijphomojljckaaGreatDoorInQ
import Derived.Test.YtijphomojljckaaGreatDoorNtCQ
import Derived.Test.YtijphomojljckaaGreatDoorFpSQ
import Derived.Test.YtijphomojljckaaGreatDoorJnCQ
import Derived.Test.YtijphomojljckaaGreatDoorWcCQ
import Derived.Test.YtijphomojljckaaGreatDoorCmTQ
import Derived.Lib.ParseIntB
namespace Go.Proofs.YtijphomojljckaaGreatDoor.Dc
open Go.Proofs.YtijphomojljckaaGreatDoor.Te

/-- The lines of a commit's text. -/
def cmLs (t : ByteArray) (ps : List ByteArray) (tm : Int) (no : ByteArray) : List (List UInt8) := wl [wTree, t] :: (ps.map (fun p => wl [wPar, p]) ++ [wl [wTime, itB tm], wl [wNote, no]])
theorem cmLs_flat (t : ByteArray) (ps : List ByteArray) (tm : Int) (no : ByteArray) : (cmLs t ps tm no).flatten = cmL t ps tm no := by
  simp [cmLs, cmL, cmP, List.flatMap_def]
theorem spl_lines : ∀ (xs : List (List UInt8)), (∀ x ∈ xs, ∃ a, x = a ++ [10] ∧ ¬ (10 : UInt8) ∈ a) → spl xs.flatten = xs
  | [], _ => rfl
  | x :: xs, h => by
    obtain ⟨a, e, h10⟩ := h x List.mem_cons_self
    have ih := spl_lines xs (fun y hy => h y (List.mem_cons_of_mem _ hy))
    rw [List.flatten_cons, e, List.append_assoc, List.singleton_append, spl_feed a _ h10, ih]
theorem wl_line {w v : ByteArray} (hw : ¬ (10 : UInt8) ∈ w.data.toList) (hv : ¬ (10 : UInt8) ∈ v.data.toList) : ∃ a, wl [w, v] = a ++ [10] ∧ ¬ (10 : UInt8) ∈ a :=
  ⟨_, wl2 w v, fun hm => by
    rcases List.mem_append.1 hm with q | q
    · exact hw q
    · rcases List.mem_cons.1 q with q | q
      · exact absurd q (by decide)
      · exact hv q⟩
theorem hex_no10 {c : UInt8} (h : isHex c = true) : ¬ c = 10 := fun e => by subst e; exact absurd h (by decide)
theorem let_no10 {c : UInt8} (h : isLet c = true) : ¬ c = 10 := fun e => by subst e; exact absurd h (by decide)
theorem id_no10 {k : Int} {id : ByteArray} (h : isOf k id = true) : ¬ (10 : UInt8) ∈ id.data.toList := fun hm => by
  have hi : idB id.data.toList = true := by
    cases e : idB id.data.toList with
    | true => rfl
    | false => rw [isOf_no e] at h; cases h
  have hl : id.data.toList.length = 5 := by
    by_cases q : id.data.toList.length = 5
    · exact q
    · rw [idB_len q] at hi; cases hi
  obtain ⟨j, hj, e⟩ := List.mem_iff_getElem.1 hm
  by_cases j0 : j = 0
  · subst j0
    cases q : isLet (id.data.toList[0]'(by omega)) with
    | true => exact let_no10 q e
    | false => rw [idB_let hl q] at hi; cases hi
  · cases q : isHex (id.data.toList[j]'(by omega)) with
    | true => exact hex_no10 q e
    | false => rw [idB_hex hl j (by omega) (by omega) q] at hi; cases hi
theorem dg_no10 (n : Nat) (h : n < 10) : ¬ UInt8.ofNat (48 + n) = 10 := by
  match n, h with
  | 0, _ | 1, _ | 2, _ | 3, _ | 4, _ | 5, _ | 6, _ | 7, _ | 8, _ | 9, _ => decide
theorem dec_no10 : ∀ (f n : Nat), n ≤ f → ¬ (10 : UInt8) ∈ Lib.decDigits n := by
  intro f
  induction f with
  | zero =>
    intro n h
    obtain rfl : n = 0 := by omega
    rw [Lib.decDigits_one (by omega)]
    decide
  | succ f ih =>
    intro n h
    by_cases h1 : n < 10
    · rw [Lib.decDigits_one h1]
      intro hm
      exact dg_no10 n h1 (List.mem_singleton.1 hm).symm
    · rw [Lib.decDigits, dif_neg h1]
      intro hm
      rcases List.mem_append.1 hm with q | q
      · exact ih (n / 10) (by omega) q
      · exact dg_no10 (n % 10) (by omega) (List.mem_singleton.1 q).symm
theorem it_no10 {n : Int} (h : 0 ≤ n) : ¬ (10 : UInt8) ∈ (itB n).data.toList := by
  show ¬ (10 : UInt8) ∈ Lib.itoa n
  unfold Lib.itoa
  rw [if_neg (by omega)]
  exact dec_no10 _ _ (Nat.le_refl _)
theorem cm_spl {t : ByteArray} {ps : List ByteArray} {tm : Int} {no : ByteArray} (h : cmF t ps tm no = 0) : spl (cmL t ps tm no) = cmLs t ps tm no := by
  obtain ⟨h0, ht, hno⟩ := cmF_zero h
  obtain ⟨x1, x2, x3⟩ := hd_zero h0
  have q1 : 0 ≤ tm := (of_decide_eq_true ht).1
  rw [← cmLs_flat]
  refine spl_lines _ fun x hx => ?_
  unfold cmLs at hx
  rcases List.mem_cons.1 hx with rfl | hx
  · exact wl_line (by decide) (id_no10 x1)
  rcases List.mem_append.1 hx with hx | hx
  · obtain ⟨p, hp, rfl⟩ := List.mem_map.1 hx
    obtain ⟨j, hj, e⟩ := List.mem_iff_getElem.1 hp
    have := (x3 j hj).1
    rw [show ps.getD j ByteArray.empty = p by rw [← e]; simp [List.getD, hj]] at this
    exact wl_line (by decide) (id_no10 this)
  · simp only [List.mem_cons, List.not_mem_nil, or_false] at hx
    rcases hx with rfl | rfl
    · exact wl_line (by decide) (it_no10 q1)
    · exact wl_line (by decide) (nt_no10 hno)
/-- A commit: its tree, its parents, its time, its note. -/
abbrev Cm4 := ByteArray × List ByteArray × Int × ByteArray
/-- What the program makes of a line; pi: how it reads a number. -/
def pStep (pi : List UInt8 → Option Int) (c : Option Cm4) (x : List UInt8) : Option Cm4 := match c with
  | none => none
  | some (t, ps, tm, no) =>
    if bef (trimL x) = wTree.data.toList then some (mkB (aft (trimL x)), ps, tm, no)
    else if bef (trimL x) = wPar.data.toList then some (t, ps ++ [mkB (aft (trimL x))], tm, no)
    else if bef (trimL x) = wTime.data.toList then (match pi (aft (trimL x)) with
      | none => none
      | some n => some (t, ps, n, no))
    else if bef (trimL x) = wNote.data.toList then some (t, ps, tm, mkB (aft (trimL x)))
    else some (t, ps, tm, no)
def pAll (pi : List UInt8 → Option Int) (xs : List (List UInt8)) : Option Cm4 := xs.foldl (pStep pi) (some (ByteArray.empty, [], 0, ByteArray.empty))
theorem wl_fld {w : ByteArray} (hw : ¬ (32 : UInt8) ∈ w.data.toList) (v : ByteArray) : bef (trimL (wl [w, v])) = w.data.toList ∧ aft (trimL (wl [w, v])) = v.data.toList := by
  rw [wl2, trim_snoc]
  exact bef_app _ hw
theorem mkB_self (v : ByteArray) : mkB v.data.toList = v := rfl
theorem p_par (pi : List UInt8 → Option Int) (t : ByteArray) (tm : Int) (no : ByteArray) : ∀ (ps qs : List ByteArray), (ps.map (fun p => wl [wPar, p])).foldl (pStep pi) (some (t, qs, tm, no)) = some (t, qs ++ ps, tm, no)
  | [], qs => by simp
  | p :: ps, qs => by
    have e := wl_fld (w := wPar) (by decide) p
    have s : pStep pi (some (t, qs, tm, no)) (wl [wPar, p]) = some (t, qs ++ [p], tm, no) := by
      simp only [pStep]
      rw [e.1, e.2, if_neg (by decide), if_pos rfl, mkB_self]
    rw [List.map_cons, List.foldl_cons, s, p_par pi t tm no ps (qs ++ [p])]
    simp
theorem pAll_cm (pi : List UInt8 → Option Int) {t : ByteArray} {ps : List ByteArray} {tm : Int} {no : ByteArray} (hpi : pi (itB tm).data.toList = some tm) : pAll pi (cmLs t ps tm no) = some (t, ps, tm, no) := by
  have e1 := wl_fld (w := wTree) (by decide) t
  have e2 := wl_fld (w := wTime) (by decide) (itB tm)
  have e3 := wl_fld (w := wNote) (by decide) no
  have s1 : pStep pi (some (ByteArray.empty, [], 0, ByteArray.empty)) (wl [wTree, t]) = some (t, [], 0, ByteArray.empty) := by
    simp only [pStep]
    rw [e1.1, e1.2, if_pos rfl, mkB_self]
  have s2 : pStep pi (some (t, ps, 0, ByteArray.empty)) (wl [wTime, itB tm]) = some (t, ps, tm, ByteArray.empty) := by
    simp only [pStep]
    rw [e2.1, e2.2, if_neg (by decide), if_neg (by decide), if_pos rfl, hpi]
  have s3 : pStep pi (some (t, ps, tm, ByteArray.empty)) (wl [wNote, no]) = some (t, ps, tm, no) := by
    simp only [pStep]
    rw [e3.1, e3.2, if_neg (by decide), if_neg (by decide), if_neg (by decide), if_pos rfl, mkB_self]
  unfold pAll cmLs
  rw [List.foldl_cons, s1, List.foldl_append, p_par, List.nil_append, List.foldl_cons, s2, List.foldl_cons, s3, List.foldl_nil]
/-- What is behind a word and a blank of a line that is ended. -/
def stW (w x : List UInt8) : Option (List UInt8) := if x.getLast? = some 10 ∧ (w ++ [32]).isPrefixOf x.dropLast = true then some (x.dropLast.drop (w.length + 1)) else none
theorem stW_wl (w v : ByteArray) : stW w.data.toList (wl [w, v]) = some v.data.toList := by
  rw [wl2]
  unfold stW
  rw [List.dropLast_concat, if_pos ⟨List.getLast?_concat, by rw [List.isPrefixOf_iff_prefix]; exact ⟨v.data.toList, by simp⟩⟩]
  have e : w.data.toList ++ 32 :: v.data.toList = (w.data.toList ++ [32]) ++ v.data.toList := by simp
  rw [e, List.drop_left' (by simp)]
theorem stW_some {w x v : List UInt8} (h : stW w x = some v) : x = (w ++ 32 :: v) ++ [10] := by
  unfold stW at h
  split at h
  · rename_i q
    have hx := last_snoc q.1
    obtain ⟨r, hr⟩ := List.isPrefixOf_iff_prefix.1 q.2
    have e := Option.some.inj h
    rw [← hr] at e
    have e' : r = v := by rw [← e]; simp
    rw [hx, ← hr, e']
    simp
  · cases h
/-- The word of line i of n. -/
def wOf (n i : Nat) : ByteArray := if i + 1 = n then wNote else if i + 2 = n then wTime else if i = 0 then wTree else wPar
def txt (xs : List (List UInt8)) (i : Nat) : List UInt8 := (stW (wOf xs.length i).data.toList (xs.getD i [])).getD []
/-- What the specification asks of the lines; ti: how it reads a number. -/
def sOk (ti : List UInt8 → Option Int) (xs : List (List UInt8)) : Prop := 3 ≤ xs.length ∧ (∀ i, i < xs.length → (stW (wOf xs.length i).data.toList (xs.getD i [])).isSome = true) ∧ (ti (txt xs (xs.length - 2))).isSome = true
/-- The commit that it makes of them. -/
def sCm (ti : List UInt8 → Option Int) (xs : List (List UInt8)) : Cm4 := (mkB (txt xs 0), (List.range (xs.length - 3)).map (fun i => mkB (txt xs (i + 1))), (ti (txt xs (xs.length - 2))).getD 0, mkB (txt xs (xs.length - 1)))
theorem cmLs_len (t : ByteArray) (ps : List ByteArray) (tm : Int) (no : ByteArray) : (cmLs t ps tm no).length = ps.length + 3 := by simp [cmLs]
theorem cmLs_at (t : ByteArray) (ps : List ByteArray) (tm : Int) (no : ByteArray) (i : Nat) (hi : i < ps.length + 3) : (cmLs t ps tm no).getD i [] = wl [wOf (ps.length + 3) i, if i + 1 = ps.length + 3 then no else if i + 2 = ps.length + 3 then itB tm else if i = 0 then t else ps.getD (i - 1) ByteArray.empty] := by
  unfold wOf cmLs
  match i, hi with
  | 0, _ => rw [if_neg (by omega), if_neg (by omega), if_pos rfl, if_neg (by omega), if_neg (by omega), if_pos rfl]; rfl
  | j + 1, hi =>
    by_cases h1 : j + 1 + 1 = ps.length + 3
    · rw [if_pos h1, if_pos h1]
      simp [List.getD, List.getElem?_append, show ¬ j < ps.length by omega, show j - ps.length = 1 by omega]
    · rw [if_neg h1, if_neg h1]
      by_cases h2 : j + 1 + 2 = ps.length + 3
      · rw [if_pos h2, if_pos h2]
        simp [List.getD, List.getElem?_append, show ¬ j < ps.length by omega, show j - ps.length = 0 by omega]
      · rw [if_neg h2, if_neg h2, if_neg (by omega), if_neg (by omega)]
        have hj : j < ps.length := by omega
        simp [List.getD, List.getElem?_append, hj]
theorem st_cm (t : ByteArray) (ps : List ByteArray) (tm : Int) (no : ByteArray) (i : Nat) (hi : i < ps.length + 3) : stW (wOf (cmLs t ps tm no).length i).data.toList ((cmLs t ps tm no).getD i []) = some (if i + 1 = ps.length + 3 then no else if i + 2 = ps.length + 3 then itB tm else if i = 0 then t else ps.getD (i - 1) ByteArray.empty).data.toList := by
  rw [cmLs_len, cmLs_at t ps tm no i hi, stW_wl]
theorem txt_cm (t : ByteArray) (ps : List ByteArray) (tm : Int) (no : ByteArray) (i : Nat) (hi : i < ps.length + 3) : txt (cmLs t ps tm no) i = (if i + 1 = ps.length + 3 then no else if i + 2 = ps.length + 3 then itB tm else if i = 0 then t else ps.getD (i - 1) ByteArray.empty).data.toList := by
  unfold txt; rw [st_cm t ps tm no i hi]; rfl
/-- A commit's own lines are taken, and give the commit. -/
theorem s_cm (ti : List UInt8 → Option Int) {t : ByteArray} {ps : List ByteArray} {tm : Int} {no : ByteArray} (hti : ti (itB tm).data.toList = some tm) : sOk ti (cmLs t ps tm no) ∧ sCm ti (cmLs t ps tm no) = (t, ps, tm, no) := by
  have l := cmLs_len t ps tm no
  have t0 := txt_cm t ps tm no 0 (by omega)
  rw [if_neg (by omega), if_neg (by omega), if_pos rfl] at t0
  have t1 := txt_cm t ps tm no (ps.length + 1) (by omega)
  rw [if_neg (by omega), if_pos (by omega)] at t1
  have t2 := txt_cm t ps tm no (ps.length + 2) (by omega)
  rw [if_pos (by omega)] at t2
  have e1 : (cmLs t ps tm no).length - 2 = ps.length + 1 := by omega
  have e2 : (cmLs t ps tm no).length - 1 = ps.length + 2 := by omega
  have e3 : (cmLs t ps tm no).length - 3 = ps.length := by omega
  refine ⟨⟨by omega, fun i hi => by rw [st_cm t ps tm no i (by omega)]; rfl, by rw [e1, t1, hti]; rfl⟩, ?_⟩
  unfold sCm
  rw [e1, e2, e3, t0, t1, t2, hti]
  have hp : (List.range ps.length).map (fun i => mkB (txt (cmLs t ps tm no) (i + 1))) = ps := by
    apply List.ext_getElem
    · simp
    · intro i h1 h2
      have := txt_cm t ps tm no (i + 1) (by omega)
      rw [if_neg (by omega), if_neg (by omega), if_neg (by omega)] at this
      simp [this, List.getD, h2, mkB_self]
  rw [hp]
  rfl
/-- Lines that are taken are the lines of the commit that they give. -/
theorem s_back (ti : List UInt8 → Option Int) (hs : ∀ v n, ti v = some n → itB n = mkB v) {xs : List (List UInt8)} (h : sOk ti xs) : cmLs (sCm ti xs).1 (sCm ti xs).2.1 (sCm ti xs).2.2.1 (sCm ti xs).2.2.2 = xs := by
  obtain ⟨h3, hall, htm⟩ := h
  obtain ⟨n, hn⟩ := Option.isSome_iff_exists.1 htm
  have hl : (sCm ti xs).2.1.length = xs.length - 3 := by simp [sCm]
  have hline : ∀ i, i < xs.length → xs.getD i [] = wl [wOf xs.length i, mkB (txt xs i)] := fun i hi => by
    obtain ⟨v, hv⟩ := Option.isSome_iff_exists.1 (hall i hi)
    have e : txt xs i = v := by unfold txt; rw [hv]; rfl
    rw [wl2, mkB_data, e]
    exact stW_some hv
  apply List.ext_getElem
  · rw [cmLs_len, hl]; omega
  · intro i g1 g2
    have e1 : (cmLs (sCm ti xs).1 (sCm ti xs).2.1 (sCm ti xs).2.2.1 (sCm ti xs).2.2.2)[i] = (cmLs (sCm ti xs).1 (sCm ti xs).2.1 (sCm ti xs).2.2.1 (sCm ti xs).2.2.2).getD i [] := by simp [List.getD, g1]
    have e2 : xs[i] = xs.getD i [] := by simp [List.getD, g2]
    rw [e1, e2, hline i g2, cmLs_at _ _ _ _ i (by rw [hl]; omega), hl, show xs.length - 3 + 3 = xs.length by omega]
    congr 2
    by_cases c1 : i + 1 = xs.length
    · rw [if_pos c1]
      show [mkB (txt xs (xs.length - 1))] = _
      rw [show xs.length - 1 = i by omega]
    · rw [if_neg c1]
      by_cases c2 : i + 2 = xs.length
      · rw [if_pos c2]
        show [itB ((ti (txt xs (xs.length - 2))).getD 0)] = _
        rw [hn, Option.getD_some, hs _ _ hn, show xs.length - 2 = i by omega]
      · rw [if_neg c2]
        by_cases c3 : i = 0
        · rw [if_pos c3, c3]; rfl
        · rw [if_neg c3]
          have : i - 1 < xs.length - 3 := by omega
          simp [sCm, List.getD, this, show i - 1 + 1 = i by omega]
/-- What the program answers of a text. -/
def dcI (pi : List UInt8 → Option Int) (d : ByteArray) : Option Cm4 := match pAll pi (spl d.data.toList) with
  | none => none
  | some c => if cmF c.1 c.2.1 c.2.2.1 c.2.2.2 = 0 ∧ cmL c.1 c.2.1 c.2.2.1 c.2.2.2 = d.data.toList then some c else none
theorem dcI_of {pi : List UInt8 → Option Int} (hp : ∀ n : Int, 0 ≤ n → n ≤ 1000000000 → pi (itB n).data.toList = some n) {d : ByteArray} {c : Cm4} (h0 : cmF c.1 c.2.1 c.2.2.1 c.2.2.2 = 0) (h1 : cmL c.1 c.2.1 c.2.2.1 c.2.2.2 = d.data.toList) : dcI pi d = some c := by
  obtain ⟨q1, q2⟩ := of_decide_eq_true (cmF_zero h0).2.1
  unfold dcI
  rw [← h1, cm_spl h0, pAll_cm pi (hp c.2.2.1 q1 q2)]
  exact if_pos ⟨h0, rfl⟩
theorem dcI_some {pi : List UInt8 → Option Int} {d : ByteArray} {c : Cm4} (h : dcI pi d = some c) : cmF c.1 c.2.1 c.2.2.1 c.2.2.2 = 0 ∧ cmL c.1 c.2.1 c.2.2.1 c.2.2.2 = d.data.toList := by
  unfold dcI at h
  split at h
  · cases h
  · split at h
    · rename_i q
      obtain rfl := Option.some.inj h
      exact q
    · cases h
/-- The specification's verdict, and the program's: the same commit, or none. -/
def dcS (ti : List UInt8 → Option Int) (d : ByteArray) : Prop := sOk ti (spl d.data.toList) ∧ cmF (sCm ti (spl d.data.toList)).1 (sCm ti (spl d.data.toList)).2.1 (sCm ti (spl d.data.toList)).2.2.1 (sCm ti (spl d.data.toList)).2.2.2 = 0
theorem dc_yes {pi ti : List UInt8 → Option Int} (hp : ∀ n : Int, 0 ≤ n → n ≤ 1000000000 → pi (itB n).data.toList = some n) (hs : ∀ v n, ti v = some n → itB n = mkB v) {d : ByteArray} (h : dcS ti d) : dcI pi d = some (sCm ti (spl d.data.toList)) :=
  dcI_of hp h.2 (by rw [← cmLs_flat, s_back ti hs h.1, spl_join])
theorem dc_no {pi ti : List UInt8 → Option Int} (ht : ∀ n : Int, 0 ≤ n → n ≤ 1000000000 → ti (itB n).data.toList = some n) {d : ByteArray} (h : ¬ dcS ti d) : dcI pi d = none := by
  cases e : dcI pi d with
  | none => rfl
  | some c =>
    obtain ⟨h0, h1⟩ := dcI_some e
    obtain ⟨q1, q2⟩ := of_decide_eq_true (cmF_zero h0).2.1
    obtain ⟨k1, k2⟩ := s_cm ti (t := c.1) (ps := c.2.1) (no := c.2.2.2) (ht c.2.2.1 q1 q2)
    have e2 : spl d.data.toList = cmLs c.1 c.2.1 c.2.2.1 c.2.2.2 := by rw [← h1]; exact cm_spl h0
    refine absurd ?_ h
    unfold dcS
    rw [e2, k2]
    exact ⟨k1, h0⟩
end Go.Proofs.YtijphomojljckaaGreatDoor.Dc
/- Numbers of a text: what both readers of a commit make of them. No statement is proved here. -/
namespace Go.Proofs.YtijphomojljckaaGreatDoor.Dc

/-- What the digits spell, behind what the digits ahead spell. -/
def valF (acc : Nat) (l : List UInt8) : Nat := l.foldl (fun n c => n * 10 + (c.toNat - 48)) acc
theorem valF_cons (acc : Nat) (c : UInt8) (r : List UInt8) : valF acc (c :: r) = valF (acc * 10 + (c.toNat - 48)) r := List.foldl_cons ..
theorem valF_nil (acc : Nat) : valF acc [] = acc := List.foldl_nil ..
def Dg (c : UInt8) : Prop := 48 ≤ c.toNat ∧ c.toNat ≤ 57
theorem valF_ge (l : List UInt8) : ∀ acc : Nat, acc ≤ valF acc l := by
  induction l with
  | nil => intro acc; rw [valF_nil]; exact Nat.le_refl _
  | cons c r ih =>
    intro acc
    rw [valF_cons]
    generalize c.toNat - 48 = d
    exact Nat.le_trans (by omega) (ih (acc * 10 + d))
theorem valF_app (c : UInt8) (l : List UInt8) : ∀ acc : Nat, valF acc (l ++ [c]) = valF acc l * 10 + (c.toNat - 48) := by
  induction l with
  | nil => intro acc; rw [List.nil_append, valF_cons, valF_nil, valF_nil]
  | cons x r ih => intro acc; rw [List.cons_append, valF_cons, valF_cons, ih]
theorem dg_of {n : Nat} (h : n < 10) : Dg (UInt8.ofNat (48 + n)) ∧ (UInt8.ofNat (48 + n)).toNat - 48 = n := by
  have e : (UInt8.ofNat (48 + n)).toNat = 48 + n := by
    rw [UInt8.toNat_ofNat']
    omega
  unfold Dg
  rw [e]
  omega
theorem val_dec : ∀ (f n : Nat), n ≤ f → valF 0 (Lib.decDigits n) = n ∧ (∀ c ∈ Lib.decDigits n, Dg c) ∧ Lib.decDigits n ≠ [] := by
  intro f
  induction f with
  | zero =>
    intro n h
    obtain rfl : n = 0 := by omega
    rw [Lib.decDigits_one (by omega)]
    refine ⟨by decide, fun c hc => ?_, by simp⟩
    obtain rfl := List.mem_singleton.1 hc
    exact (dg_of (by omega)).1
  | succ f ih =>
    intro n h
    by_cases h1 : n < 10
    · rw [Lib.decDigits_one h1]
      refine ⟨?_, fun c hc => ?_, by simp⟩
      · rw [valF_cons, valF_nil, (dg_of h1).2]
        omega
      · obtain rfl := List.mem_singleton.1 hc
        exact (dg_of h1).1
    · obtain ⟨i1, i2, i3⟩ := ih (n / 10) (by omega)
      have hd := dg_of (n := n % 10) (by omega)
      rw [Lib.decDigits, dif_neg h1]
      refine ⟨?_, fun c hc => ?_, by simp⟩
      · rw [valF_app, i1, hd.2]
        omega
      · rcases List.mem_append.1 hc with q | q
        · exact i2 c q
        · obtain rfl := List.mem_singleton.1 q
          exact hd.1
theorem pM_ok (M : Nat) (hM : 1000000000 ≤ M) : ∀ (l : List UInt8) (acc : Nat), (∀ c ∈ l, Dg c) → valF acc l ≤ 1000000000 → Lib.parseUintM M acc l = .ok (valF acc l)
  | [], acc, _, _ => by rw [valF_nil]; unfold Lib.parseUintM; rfl
  | c :: r, acc, hd, hv => by
    have h1 := hd c List.mem_cons_self
    rw [valF_cons] at hv ⊢
    have g := valF_ge r (acc * 10 + (c.toNat - 48))
    unfold Lib.parseUintM
    rw [if_pos (show 48 ≤ c.toNat ∧ c.toNat ≤ 57 from h1), if_neg (by omega), if_neg (by omega)]
    exact pM_ok M hM r _ (fun x hx => hd x (List.mem_cons_of_mem _ hx)) hv
/-- The program's number of a text. -/
def pI (v : List UInt8) : Option Int := match Lib.parseIntB 64 v with
  | .ok n => some n
  | _ => none
theorem it_dec (n : Nat) : (itB (n : Int)).data.toList = Lib.decDigits n := by
  show Lib.itoa (n : Int) = _
  unfold Lib.itoa
  rw [if_neg (by omega)]
  simp
theorem pI_dec (n : Int) (h0 : 0 ≤ n) (h1 : n ≤ 1000000000) : pI (itB n).data.toList = some n := by
  obtain ⟨m, rfl⟩ := Int.eq_ofNat_of_zero_le h0
  rw [it_dec]
  obtain ⟨v1, v2, v3⟩ := val_dec m m (Nat.le_refl _)
  unfold pI Lib.parseIntB
  cases e : Lib.decDigits m with
  | nil => exact absurd e v3
  | cons c r =>
    rw [e] at v1 v2
    have hc := v2 c List.mem_cons_self
    have hc' : 48 ≤ c.toNat := hc.1
    have hu : Lib.parseUintB 64 (c :: r) = .ok m := by
      unfold Lib.parseUintB
      rw [if_neg (by simp), pM_ok _ (by decide) _ _ v2 (by omega), v1]
    have n1 : ¬ (c.toNat = 43 ∨ c.toNat = 45) := by omega
    have n2 : ¬ c.toNat = 45 := by omega
    have n3 : ¬ 2 ^ (64 - 1) ≤ m := by
      have : (2 : Nat) ^ (64 - 1) = 9223372036854775808 := by decide
      omega
    dsimp only
    rw [if_neg n1, hu]
    dsimp only
    rw [if_neg (fun q => n3 q.2), if_neg (fun q => n2 q.1), if_neg n2]
/-- The specification's number of a text. -/
def tI (v : List UInt8) : Option Int := if 1 ≤ v.length ∧ v.length ≤ 10 ∧ (v.all fun c => decide (48 ≤ c.toNat ∧ c.toNat ≤ 57)) = true ∧ Lib.decDigits (valF 0 v) = v then some (valF 0 v : Nat) else none
theorem tI_sound (v : List UInt8) (n : Int) (h : tI v = some n) : itB n = mkB v := by
  unfold tI at h
  split at h
  · rename_i q
    obtain rfl := Option.some.inj h
    have e := it_dec (valF 0 v)
    rw [q.2.2.2] at e
    exact WideShapes.bytes_inj (e.trans (mkB_data v).symm)
  · cases h
theorem tI_dec (n : Int) (h0 : 0 ≤ n) (h1 : n ≤ 1000000000) : tI (itB n).data.toList = some n := by
  have hz := it_size h0 h1
  obtain ⟨m, rfl⟩ := Int.eq_ofNat_of_zero_le h0
  obtain ⟨v1, v2, v3⟩ := val_dec m m (Nat.le_refl _)
  have hl : (itB (m : Int)).data.toList.length ≤ 10 := by rw [size_eq]; exact hz
  rw [it_dec] at hl ⊢
  unfold tI
  rw [if_pos ⟨List.length_pos_iff.2 v3, hl, List.all_eq_true.2 fun c hc => decide_eq_true (v2 c hc), by rw [v1]⟩, v1]
end Go.Proofs.YtijphomojljckaaGreatDoor.Dc
