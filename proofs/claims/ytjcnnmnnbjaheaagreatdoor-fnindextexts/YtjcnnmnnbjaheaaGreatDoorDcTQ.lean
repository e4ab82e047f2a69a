/- Numbers of a text: what both readers of a commit make of them. No statement is proved here. -/
import Derived.Test.YtjcnnmnnbjaheaaGreatDoorRows
import Derived.Test.YtjcnnmnnbjaheaaGreatDoorLemQ
import Derived.Test.YtjcnnmnnbjaheaaGreatDoorLFLemQ
import Derived.Test.YtjcnnmnnbjaheaaGreatDoorTrWQ
import Derived.Lib.ParseIntB
import Derived.Test.YtjcnnmnnbjaheaaGreatDoorCutLQ
import Derived.Test.YtjcnnmnnbjaheaaGreatDoorXtFQ
import Derived.Test.YtjcnnmnnbjaheaaGreatDoorDtLQ
import Derived.Test.YtjcnnmnnbjaheaaGreatDoorSsCQ
import Derived.Test.YtjcnnmnnbjaheaaGreatDoorIdLQ
import Derived.Test.YtjcnnmnnbjaheaaGreatDoorJnCQ
import Derived.Test.YtjcnnmnnbjaheaaGreatDoorWwCQ
import Derived.Test.YtjcnnmnnbjaheaaGreatDoorHkTQ
import Derived.Test.YtjcnnmnnbjaheaaGreatDoorIxMQ
import Derived.Test.YtjcnnmnnbjaheaaGreatDoorPiMQ
namespace Go.Proofs.YtjcnnmnnbjaheaaGreatDoor.Dc

/-- What the digits spell, behind what the digits ahead spell. -/
def valF (acc : Nat) (l : List UInt8) : Nat := l.foldl (fun n c => n * 10 + (c.toNat - 48)) acc
theorem valF_cons (acc : Nat) (c : UInt8) (r : List UInt8) : valF acc (c :: r) = valF (acc * 10 + (c.toNat - 48)) r := List.foldl_cons ..
theorem valF_nil (acc : Nat) : valF acc [] = acc := List.foldl_nil ..
def Dg (c : UInt8) : Prop := 48 ≤ c.toNat ∧ c.toNat ≤ 57
theorem valF_ge (l : List UInt8) : ∀ acc : Nat, acc ≤ valF acc l := by
  induction l with
  | nil => intro acc; rw [valF_nil]; exact Nat.le_refl _
  | cons c r ih =>
    intro acc
    rw [valF_cons]
    generalize c.toNat - 48 = d
    exact Nat.le_trans (by omega) (ih (acc * 10 + d))
theorem valF_app (c : UInt8) (l : List UInt8) : ∀ acc : Nat, valF acc (l ++ [c]) = valF acc l * 10 + (c.toNat - 48) := by
  induction l with
  | nil => intro acc; rw [List.nil_append, valF_cons, valF_nil, valF_nil]
  | cons x r ih => intro acc; rw [List.cons_append, valF_cons, valF_cons, ih]
theorem dg_of {n : Nat} (h : n < 10) : Dg (UInt8.ofNat (48 + n)) ∧ (UInt8.ofNat (48 + n)).toNat - 48 = n := by
  have e : (UInt8.ofNat (48 + n)).toNat = 48 + n := by
    rw [UInt8.toNat_ofNat']
    omega
  unfold Dg
  rw [e]
  omega
theorem val_dec : ∀ (f n : Nat), n ≤ f → valF 0 (Lib.decDigits n) = n ∧ (∀ c ∈ Lib.decDigits n, Dg c) ∧ Lib.decDigits n ≠ [] := by
  intro f
  induction f with
  | zero =>
    intro n h
    obtain rfl : n = 0 := by omega
    rw [Lib.decDigits_one (by omega)]
    refine ⟨by decide, fun c hc => ?_, by simp⟩
    obtain rfl := List.mem_singleton.1 hc
    exact (dg_of (by omega)).1
  | succ f ih =>
    intro n h
    by_cases h1 : n < 10
    · rw [Lib.decDigits_one h1]
      refine ⟨?_, fun c hc => ?_, by simp⟩
      · rw [valF_cons, valF_nil, (dg_of h1).2]
        omega
      · obtain rfl := List.mem_singleton.1 hc
        exact (dg_of h1).1
    · obtain ⟨i1, i2, i3⟩ := ih (n / 10) (by omega)
      have hd := dg_of (n := n % 10) (by omega)
      rw [Lib.decDigits, dif_neg h1]
      refine ⟨?_, fun c hc => ?_, by simp⟩
      · rw [valF_app, i1, hd.2]
        omega
      · rcases List.mem_append.1 hc with q | q
        · exact i2 c q
        · obtain rfl := List.mem_singleton.1 q
          exact hd.1
theorem pM_ok (M : Nat) (hM : 1000000000 ≤ M) : ∀ (l : List UInt8) (acc : Nat), (∀ c ∈ l, Dg c) → valF acc l ≤ 1000000000 → Lib.parseUintM M acc l = .ok (valF acc l)
  | [], acc, _, _ => by rw [valF_nil]; unfold Lib.parseUintM; rfl
  | c :: r, acc, hd, hv => by
    have h1 := hd c List.mem_cons_self
    rw [valF_cons] at hv ⊢
    have g := valF_ge r (acc * 10 + (c.toNat - 48))
    unfold Lib.parseUintM
    rw [if_pos (show 48 ≤ c.toNat ∧ c.toNat ≤ 57 from h1), if_neg (by omega), if_neg (by omega)]
    exact pM_ok M hM r _ (fun x hx => hd x (List.mem_cons_of_mem _ hx)) hv
/-- The program's number of a text. -/
def pI (v : List UInt8) : Option Int := match Lib.parseIntB 64 v with
  | .ok n => some n
  | _ => none
theorem it_dec (n : Nat) : (itB (n : Int)).data.toList = Lib.decDigits n := by
  show Lib.itoa (n : Int) = _
  unfold Lib.itoa
  rw [if_neg (by omega)]
  simp
theorem pI_dec (n : Int) (h0 : 0 ≤ n) (h1 : n ≤ 1000000000) : pI (itB n).data.toList = some n := by
  obtain ⟨m, rfl⟩ := Int.eq_ofNat_of_zero_le h0
  rw [it_dec]
  obtain ⟨v1, v2, v3⟩ := val_dec m m (Nat.le_refl _)
  unfold pI Lib.parseIntB
  cases e : Lib.decDigits m with
  | nil => exact absurd e v3
  | cons c r =>
    rw [e] at v1 v2
    have hc := v2 c List.mem_cons_self
    have hc' : 48 ≤ c.toNat := hc.1
    have hu : Lib.parseUintB 64 (c :: r) = .ok m := by
      unfold Lib.parseUintB
      rw [if_neg (by simp), pM_ok _ (by decide) _ _ v2 (by omega), v1]
    have n1 : ¬ (c.toNat = 43 ∨ c.toNat = 45) := by omega
    have n2 : ¬ c.toNat = 45 := by omega
    have n3 : ¬ 2 ^ (64 - 1) ≤ m := by
      have : (2 : Nat) ^ (64 - 1) = 9223372036854775808 := by decide
      omega
    dsimp only
    rw [if_neg n1, hu]
    dsimp only
    rw [if_neg (fun q => n3 q.2), if_neg (fun q => n2 q.1), if_neg n2]
/-- The specification's number of a text. -/
def tI (v : List UInt8) : Option Int := if 1 ≤ v.length ∧ v.length ≤ 10 ∧ (v.all fun c => decide (48 ≤ c.toNat ∧ c.toNat ≤ 57)) = true ∧ Lib.decDigits (valF 0 v) = v then some (valF 0 v : Nat) else none
theorem tI_sound (v : List UInt8) (n : Int) (h : tI v = some n) : itB n = mkB v := by
  unfold tI at h
  split at h
  · rename_i q
    obtain rfl := Option.some.inj h
    have e := it_dec (valF 0 v)
    rw [q.2.2.2] at e
    exact WideShapes.bytes_inj (e.trans (mkB_data v).symm)
  · cases h
theorem tI_dec (n : Int) (h0 : 0 ≤ n) (h1 : n ≤ 1000000000) : tI (itB n).data.toList = some n := by
  have hz := it_size h0 h1
  obtain ⟨m, rfl⟩ := Int.eq_ofNat_of_zero_le h0
  obtain ⟨v1, v2, v3⟩ := val_dec m m (Nat.le_refl _)
  have hl : (itB (m : Int)).data.toList.length ≤ 10 := by rw [size_eq]; exact hz
  rw [it_dec] at hl ⊢
  unfold tI
  rw [if_pos ⟨List.length_pos_iff.2 v3, hl, List.all_eq_true.2 fun c hc => decide_eq_true (v2 c hc), by rw [v1]⟩, v1]
end Go.Proofs.YtjcnnmnnbjaheaaGreatDoor.Dc
/- An index is read back from its text. Plain mathematics. No statement is proved here. -/
namespace Go.Proofs.YtjcnnmnnbjaheaaGreatDoor.En
open Go.ChangeShapes Go.WideShapes Go.ChangeAt Go.RowKit

theorem cut_memB (c : UInt8) : ∀ (l : List UInt8) (x : UInt8), x ∈ l → x = c ∨ ∃ y ∈ cutL c l, x ∈ y
  | [], _, h => by cases h
  | z :: l, x, h => by
    by_cases e : z = c
    · simp only [cutL, if_pos e]
      rcases List.mem_cons.1 h with rfl | h
      · exact .inl e
      · rcases cut_memB c l x h with k | ⟨y, hy, k⟩
        · exact .inl k
        · exact .inr ⟨y, List.mem_cons_of_mem _ hy, k⟩
    · simp only [cutL, if_neg e]
      cases q : cutL c l with
      | nil => have := (cut_len c l).1; rw [q] at this; simp at this
      | cons y ys =>
        rcases List.mem_cons.1 h with rfl | h
        · exact .inr ⟨x :: y, List.mem_cons_self, List.mem_cons_self⟩
        · rcases cut_memB c l x h with k | ⟨u, hu, k⟩
          · exact .inl k
          · rw [q] at hu
            rcases List.mem_cons.1 hu with rfl | hu
            · exact .inr ⟨z :: u, List.mem_cons_self, List.mem_cons_of_mem _ k⟩
            · exact .inr ⟨u, List.mem_cons_of_mem _ hu, k⟩
theorem pf_bytes {s : ByteArray} (h : pf s = 0) : ∀ c ∈ s.data.toList, ¬ c = 32 ∧ ¬ c = 10 := by
  intro c hc
  unfold pf at h
  split at h
  · rename_i q
    rcases cut_memB 47 _ c hc with rfl | ⟨y, hy, hy2⟩
    · decide
    · have q2 := List.all_eq_true.1 q.2 (mkB y) (by
        unfold cutOf cutFrom
        rw [List.drop_zero]
        exact List.mem_map.2 ⟨y, hy, rfl⟩)
      have q3 : nf (mkB y) = 0 := by simpa using q2
      exact Te.nm_no (Te.nf_bytes q3 c (by rw [mkB_data]; exact hy2))
  · omega
theorem pf_ne {s : ByteArray} (h : pf s = 0) : ¬ s.data.toList = [] := by
  intro e
  unfold pf at h
  split at h
  · rename_i q
    have q2 := List.all_eq_true.1 q.2 (mkB []) (by
      unfold cutOf cutFrom
      rw [List.drop_zero, e]
      simp [cutL])
    revert q2
    decide
  · omega
theorem id_ne {k : Int} {s : ByteArray} (h : isOf k s = true) : ¬ s.data.toList = [] := by
  intro e
  have := Te.isOf_size h
  rw [← size_eq, e] at this
  simp at this
theorem stage_byte {x : Int} (h0 : 0 ≤ x) (h1 : x ≤ 3) : ∃ b : UInt8, (itB x).data.toList = [b] ∧ (48 ≤ b.toNat ∧ b.toNat ≤ 51) ∧ ((b.toNat : Int) - 48 = x) := by
  obtain ⟨n, rfl⟩ := Int.eq_ofNat_of_zero_le h0
  have hn : n ≤ 3 := by omega
  refine ⟨UInt8.ofNat (48 + n), ?_, ?_⟩
  · rw [Dc.it_dec, Lib.decDigits_one (by omega)]
  · have e : (UInt8.ofNat (48 + n)).toNat = 48 + n := by
      show (48 + n) % 256 = _
      omega
    rw [e]
    refine ⟨⟨by omega, by omega⟩, ?_⟩
    omega
theorem md_wd12 {m : Int} (h : m = 1 ∨ m = 2) : Te.md (Te.wd m).data.toList = m := by
  rcases h with rfl | rfl <;> rfl
theorem wd_bytes12 {m : Int} (h : m = 1 ∨ m = 2) : ∀ c ∈ (Te.wd m).data.toList, ¬ c = 32 ∧ ¬ c = 10 := by
  rcases h with rfl | rfl
  · decide
  · decide
theorem eL_eq (o : Ob) : eL o = ((itB o.2.1).data.toList ++ 32 :: ((Te.wd o.2.2.1).data.toList ++ 32 :: (o.2.2.2.data.toList ++ 32 :: o.1.data.toList))) ++ [10] := by
  unfold eL wl jnB
  show jl _ 3 ++ [10] = _
  simp [jl]
theorem eL_read {o : Ob} (h : eiO o = 0) : entL (eL o) = some o ∧ ∀ r : List UInt8, spl (eL o ++ r) = eL o :: spl r := by
  obtain ⟨h0, h1, h2, h3⟩ := ei_zero h
  obtain ⟨q0, q1⟩ := inB03 h1
  have hm := inB12 h2
  obtain ⟨b, hb, hb2, hb3⟩ := stage_byte q0 q1
  have nb : ¬ b = 32 ∧ ¬ b = 10 := by
    constructor <;> intro e <;> subst e <;> revert hb2 <;> decide
  have a0 : ¬ (32 : UInt8) ∈ (itB o.2.1).data.toList := fun q => by rw [hb] at q; exact nb.1 (List.mem_singleton.1 q).symm
  have a1 : ¬ (32 : UInt8) ∈ (Te.wd o.2.2.1).data.toList := fun q => (wd_bytes12 hm _ q).1 rfl
  have a2 : ¬ (32 : UInt8) ∈ o.2.2.2.data.toList := fun q => (Te.id_bytes h3 _ q).1 rfl
  have a3 : ¬ (32 : UInt8) ∈ o.1.data.toList := fun q => (pf_bytes h0 _ q).1 rfl
  refine ⟨?_, fun r => ?_⟩
  · unfold entL
    rw [eL_eq, if_pos (by rw [List.getLast?_append]; rfl), List.dropLast_concat, cut_at _ a0, cut_at _ a1, cut_at _ a2, cut_none a3]
    show eFour _ _ _ _ = _
    rw [hb]
    unfold eFour
    simp only []
    rw [if_pos ⟨hb2, by rw [md_wd12 hm]; exact hm, id_ne h3, pf_ne h0⟩, md_wd12 hm, mkB_eq, mkB_eq, hb3]
  · rw [eL_eq, List.append_assoc]
    refine spl_feed _ r (fun q => ?_)
    rcases List.mem_append.1 q with q | q
    · rw [hb] at q; exact nb.2 (List.mem_singleton.1 q).symm
    · rcases List.mem_cons.1 q with q | q
      · revert q; decide
      · rcases List.mem_append.1 q with q | q
        · exact (wd_bytes12 hm _ q).2 rfl
        · rcases List.mem_cons.1 q with q | q
          · revert q; decide
          · rcases List.mem_append.1 q with q | q
            · exact (Te.id_bytes h3 _ q).2 rfl
            · rcases List.mem_cons.1 q with q | q
              · revert q; decide
              · exact (pf_bytes h0 _ q).2 rfl
theorem xL_read : ∀ (l : List Ob) (r : List UInt8), (∀ o ∈ l, eiO o = 0) → spl (xL l ++ r) = l.map eL ++ spl r ∧ ahead (l.map eL) = l
  | [], r, _ => by simp [xL, ahead]
  | o :: l, r, h => by
    have ho := eL_read (h o List.mem_cons_self)
    have ih := xL_read l r (fun q hq => h q (List.mem_cons_of_mem _ hq))
    have e : xL (o :: l) ++ r = eL o ++ (xL l ++ r) := by unfold xL; simp
    refine ⟨?_, ?_⟩
    · rw [e, ho.2, ih.1]; rfl
    · rw [List.map_cons, ahead_some ho.1, ih.2]
/-- The line of the sum. -/
def smL (n : Int) : List UInt8 := wl [wSum, itB n]
theorem smL_eq (n : Int) : smL n = ([115, 117, 109] ++ 32 :: (itB n).data.toList) ++ [10] := by
  unfold smL wl jnB
  show jl _ 1 ++ [10] = _
  simp [jl, wSum]
theorem sum_dig {n : Int} (h0 : 0 ≤ n) (h1 : n < 65521) : 1 ≤ (itB n).data.toList.length ∧ (itB n).data.toList.length ≤ 5 ∧ (itB n).data.toList.all dig1 = true ∧ ∀ c ∈ (itB n).data.toList, ¬ c = 32 ∧ ¬ c = 10 := by
  obtain ⟨m, rfl⟩ := Int.eq_ofNat_of_zero_le h0
  rw [Dc.it_dec]
  obtain ⟨_, hd, hne⟩ := Dc.val_dec m m (Nat.le_refl _)
  refine ⟨?_, dec_len 4 m (by omega), ?_, ?_⟩
  · cases e : Lib.decDigits m with
    | nil => exact absurd e hne
    | cons a t => simp
  · exact List.all_eq_true.2 fun c hc => decide_eq_true (hd c hc)
  · intro c hc
    have := hd c hc
    unfold Dc.Dg at this
    constructor <;> intro e <;> subst e <;> revert this <;> decide
theorem smL_read {n : Int} (h0 : 0 ≤ n) (h1 : n < 65521) : spl (smL n) = [smL n] ∧ entL (smL n) = none ∧ sumT (smL n) = true := by
  obtain ⟨d0, d1, d2, d3⟩ := sum_dig h0 h1
  refine ⟨?_, ?_, ?_⟩
  · rw [smL_eq]
    have := spl_feed ([115, 117, 109] ++ 32 :: (itB n).data.toList) [] (fun q => by
      rcases List.mem_append.1 q with q | q
      · revert q; decide
      · rcases List.mem_cons.1 q with q | q
        · revert q; decide
        · exact (d3 _ q).2 rfl)
    rw [this]; rfl
  · unfold entL
    rw [smL_eq, if_pos (by rw [List.getLast?_append]; rfl), List.dropLast_concat, cut_at _ (by decide), cut_none (fun q => (d3 _ q).1 rfl)]
    rfl
  · unfold sumT
    rw [smL_eq, List.dropLast_concat, List.getLast?_append]
    simp only [List.getLast?_singleton, Option.some_or, decide_true, Bool.true_and]
    unfold sumS
    have e : ([115, 117, 109] : List UInt8) ++ 32 :: (itB n).data.toList = [115, 117, 109, 32] ++ (itB n).data.toList := rfl
    have e1 : List.take 4 ([115, 117, 109, 32] ++ (itB n).data.toList) = [115, 117, 109, 32] := rfl
    have e2 : List.drop 4 ([115, 117, 109, 32] ++ (itB n).data.toList) = (itB n).data.toList := rfl
    rw [e, e1, e2, d2]
    simp only [Bool.and_true, Bool.and_eq_true, decide_eq_true_eq]
    exact ⟨beq_self_eq_true _, d0, d1⟩
/-- An index without a fault is read back from its text. -/
theorem x_back {l : List Ob} (h : ixf l = 0) : pA (xB l) = l ∧ sumT (pR (xB l)) = true := by
  obtain ⟨g0, g1⟩ := dig_bd (xL l)
  obtain ⟨s0, s1, s2⟩ := smL_read g0 g1
  have hl : ∀ o ∈ l, eiO o = 0 := fun o ho => by
    obtain ⟨k, hk, e⟩ := List.mem_iff_getElem.1 ho
    have := (eiF_zero ((ixf_zero h).2 k hk)).1
    rw [List.getD, List.getElem?_eq_getElem hk] at this
    rw [← e]; exact this
  have e0 : (xB l).data.toList = xL l ++ smL (dig (xL l)) := rfl
  have e1 := xL_read l (smL (dig (xL l))) hl
  rw [s0] at e1
  have hL : (ahead (l.map eL)).length = (l.map eL).length := by rw [e1.2, List.length_map]
  have e2 : pA (xB l) = l := by
    unfold pA
    rw [e0, e1.1, ahead_stop hL s1, e1.2]
  refine ⟨e2, ?_⟩
  unfold pR
  rw [e2, e0, e1.1, List.drop_left' (by rw [List.length_map])]
  simpa using s2
theorem p_back {l : List Ob} (h : ixf l = 0) (hz : ¬ 12000 < (xB l).size) : pC (xB l) = 0 ∧ pE (xB l) = l := by
  obtain ⟨e1, e2⟩ := x_back h
  obtain ⟨a, _, b⟩ := p_ok (s := xB l) hz e2 (by rw [e1]; exact h) (by rw [e1])
  exact ⟨a, by rw [b, e1]⟩
theorem p_zero {s : ByteArray} (h : pC s = 0) : ixf (pE s) = 0 ∧ xB (pE s) = s := by
  by_cases h1 : 12000 < s.size
  · have := (p_many h1).1; omega
  cases h2 : sumT (pR s) with
  | false => have := (p_text h1 h2).1; omega
  | true =>
    by_cases h3 : ixf (pA s) = 0
    · by_cases h4 : xB (pA s) = s
      · have := (p_ok h1 h2 h3 h4).2.2
        rw [this]; exact ⟨h3, h4⟩
      · have := (p_clash h1 h2 h3 h4).1; omega
    · have := (p_fault h1 h2 h3).1
      omega
end Go.Proofs.YtjcnnmnnbjaheaaGreatDoor.En
