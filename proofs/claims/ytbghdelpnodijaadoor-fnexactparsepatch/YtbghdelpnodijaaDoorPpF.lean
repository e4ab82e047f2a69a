/- spec.l3First: the numbers of a hunk's first line. No statement is proved here. -/
import Derived.Test.YtbghdelpnodijaaDoorRows
import Derived.Test.YtbghdelpnodijaaDoorLem
import Derived.Test.YtbghdelpnodijaaDoorStrs
import Derived.Test.YtbghdelpnodijaaDoorLFLem
import Derived.Test.YtbghdelpnodijaaDoorDTab
import Derived.Test.YtbghdelpnodijaaDoorOwn
import Derived.Test.YtbghdelpnodijaaDoorFr
import Derived.Test.YtbghdelpnodijaaDoorHkL
import Derived.Test.YtbghdelpnodijaaDoorHkS
import Derived.Test.YtbghdelpnodijaaDoorHkT
import Derived.Test.YtbghdelpnodijaaDoorPpM
import Derived.Test.YtbghdelpnodijaaDoorPpN
import Derived.WalkKit
import Derived.ProofKit
import Derived.Below
import Derived.WalkSpells
import Derived.Maps.AppendAt
set_option linter.unusedVariables false
namespace Go.Proofs.YtbghdelpnodijaaDoor.Pp
open Go.ChangeShapes Go.WideShapes Go.ChangeAt Go.RowKit

/-- The words of the first line. -/
def mkW (k : Nat) : ByteArray := if k = 0 then ⟨#[64, 64, 32, 45]⟩ else if k = 1 then ⟨#[44]⟩ else if k = 2 then ⟨#[32, 43]⟩ else if k = 3 then ⟨#[44]⟩ else ⟨#[32, 64, 64, 10]⟩
theorem mkW_bd (k : Nat) : 0 < (mkW k).size ∧ (mkW k).size ≤ 4 := by
  unfold mkW
  split
  · decide
  · split
    · decide
    · split
      · decide
      · split <;> decide
/-- One word, and a number behind it. -/
def stp (t : ByteArray) (k : Nat) (s : List Int × Nat) : Option (List Int × Nat) := if wd t (mkW k) s.2 < 0 then none else if nmE t (wd t (mkW k) s.2).toNat < 0 then none else some (s.1 ++ [nmV t (wd t (mkW k) s.2).toNat], (nmE t (wd t (mkW k) s.2).toNat).toNat)
def fstK (t : ByteArray) (a : Nat) : Nat → Option (List Int × Nat)
  | 0 => some ([], a)
  | k + 1 => (fstK t a k).bind (stp t k)
/-- The four numbers, and where the line ends. -/
def fst1 (t : ByteArray) (a : Nat) : Option (List Int × Nat) := (fstK t a 4).bind fun s => if wd t (mkW 4) s.2 < 0 then none else some (s.1, (wd t (mkW 4) s.2).toNat)
theorem fst_none {t : ByteArray} {a : Nat} : ∀ (m k : Nat), fstK t a k = none → k + m = 4 → fst1 t a = none := by
  intro m
  induction m with
  | zero => intro k h e; have : k = 4 := by omega
            subst this; unfold fst1; rw [h]; rfl
  | succ m ih => intro k h e; exact ih (k + 1) (by rw [fstK, h]; rfl) (by omega)
theorem all_dgs : ∀ (l : List UInt8), ∀ x ∈ dgs l, isDg x = true := by
  intro l
  induction l with
  | nil => intro x hx; simp [dgs] at hx
  | cons c l ih =>
    intro x hx
    unfold dgs at hx ih
    rw [List.takeWhile_cons] at hx
    split at hx
    · rename_i hc
      rcases List.mem_cons.1 hx with rfl | hx
      · exact hc
      · exact ih x hx
    · cases hx
theorem wd_bd {t w : ByteArray} {a : Nat} (ha : a ≤ t.size) (h : ¬ wd t w a < 0) : ∃ q : Nat, wd t w a = q ∧ q ≤ t.size ∧ a + w.size = q := by
  unfold wd at h ⊢
  split
  · rename_i e
    refine ⟨a + w.size, rfl, ?_, rfl⟩
    have := congrArg ByteArray.size e
    rw [ext_size] at this
    omega
  · rename_i e
    rw [if_neg e] at h
    omega
theorem nm_bd {t : ByteArray} {a : Nat} (ha : a ≤ t.size) (h : ¬ nmE t a < 0) : ∃ q : Nat, nmE t a = q ∧ q ≤ t.size ∧ a < q ∧ 0 ≤ nmV t a ∧ nmV t a < 10000 := by
  unfold nmE at h ⊢
  split
  · rename_i e
    have hk := of_decide_eq_true e
    have hp : dgs (t.data.toList.drop a) <+: t.data.toList.drop a := List.takeWhile_prefix _
    have hl := hp.length_le
    rw [List.length_drop] at hl
    have hz : t.data.toList.length = t.size := by simp
    refine ⟨_, rfl, by omega, by omega, ?_, ?_⟩
    · unfold nmV; rw [if_pos e]; omega
    · unfold nmV; rw [if_pos e]
      have h1 := dval_bd (dgs (t.data.toList.drop a)) (fun x hx => by
        exact all_dgs _ x hx)
      have h2 : 10 ^ (dgs (t.data.toList.drop a)).length ≤ 10 ^ 4 := Nat.pow_le_pow_right (by decide) hk.2.1
      omega
  · rename_i e
    rw [if_neg e] at h
    omega
/-- What l3First tells. -/
def FiP (t : ByteArray) (a : Nat) (w : World) (e : Ending) (w' : World) : Prop :=
  (fst1 t a = none ∧ e = .returned (.tuple #[.slice none 0 0, .int .i64 (-1)]) ∧ Below w.heap.size w w') ∨
  (∃ ns q v, fst1 t a = some (ns, q) ∧ e = .returned (.tuple #[v, .int .i64 (q : Nat)]) ∧ w'.ownsRow w.heap.size 2 1 v ns.length (intCells ns) ∧ ns.length = 4 ∧ (∀ x ∈ ns, 0 ≤ x ∧ x < 10000) ∧ a < q ∧ q ≤ t.size ∧ Below w.heap.size w w')
theorem infoI64 : (Tryd.prog.info? 2).map (fun i => (i.zero, i.size, i.bytes)) = some (some (.int .i64 0), 1, 8) := by kernel_rfl
theorem shapeI {w : World} {base : Nat} {v : Value} {n : Nat} {xs : List Value} (h : w.ownsRow base 2 1 v n xs) : ∃ a c, v = .slice a n c := by
  rcases h.2 with ⟨rfl, rfl⟩ | ⟨g, cap, cur, rfl, _⟩
  · exact ⟨_, _, rfl⟩
  · exact ⟨_, _, rfl⟩
theorem ownMonoI {w : World} {base b : Nat} {v : Value} {n : Nat} {xs : List Value} (h : w.ownsRow base 2 1 v n xs) (hb : b ≤ base) : w.ownsRow b 2 1 v n xs := by
  refine ⟨h.1, ?_⟩
  rcases h.2 with hn | ⟨g, cap, cur, hv, hg, r⟩
  · exact .inl hn
  · exact .inr ⟨g, cap, cur, hv, Nat.le_trans hb hg, r⟩
set_option maxRecDepth 20000 in
set_option maxHeartbeats 4000000 in
theorem l3First (t : ByteArray) (a : Nat) (w : World) (ht : t.size ≤ 1048576) (ha : a ≤ t.size) :
    Calls Tryd.prog 42 #[.string t, .int .i64 a] w fun e w' => FiP t a w e w' := by
  obtain ⟨i0, hi, hz0, hz1, hz2⟩ := info_parts infoI64
  obtain ⟨W1, hW1⟩ : ∃ W, w.alloc (.cells #[.string ⟨#[64, 64, 32, 45]⟩, .string ⟨#[44]⟩, .string ⟨#[32, 43]⟩, .string ⟨#[44]⟩, .string ⟨#[32, 64, 64, 10]⟩] 9) = W := ⟨_, rfl⟩
  have b1 : Below w.heap.size w W1 := by rw [← hW1]; exact allocBelow _ _
  have R1 : Rs W1 w.heap.size [.string ⟨#[64, 64, 32, 45]⟩, .string ⟨#[44]⟩, .string ⟨#[32, 43]⟩, .string ⟨#[44]⟩, .string ⟨#[32, 64, 64, 10]⟩] := by rw [← hW1]; exact Rs.new _ _ _
  have z1 : w.heap.size < W1.heap.size := by rw [← hW1]; simp
  obtain ⟨W2, hW2⟩ : ∃ W, W1.alloc (.cells #[] 2) = W := ⟨_, rfl⟩
  have b2 : Below W1.heap.size W1 W2 := by rw [← hW2]; exact allocBelow _ _
  have o2 : W2.ownsRow W1.heap.size 2 1 (.slice (some ⟨W1.heap.size, 0, none⟩) 0 0) ([] : List Int).length (intCells []) := by rw [← hW2]; exact World.ownsRow_lit W1 #[] 0 (Nat.le_refl _) (Nat.zero_le _) rfl
  have z2 : W1.heap.size ≤ W2.heap.size := b2.size
  obtain ⟨g, hg⟩ : ∃ g, w.heap.size = g := ⟨_, rfl⟩
  rw [hg] at R1 z1
  obtain ⟨M, hM⟩ : ∃ M, W1.heap.size = M := ⟨_, rfl⟩
  rw [hM] at o2 z1
  have HM : Hid (W1.heap.size = M) := hM
  have RW : ∀ k, k < 5 → W1.cell? ⟨g, k, none⟩ = some (.string (mkW k)) := fun k hk => by
    match k, hk with
    | 0, _ => exact R1 0 _ rfl
    | 1, _ => exact R1 1 _ rfl
    | 2, _ => exact R1 2 _ rfl
    | 3, _ => exact R1 3 _ rfl
    | 4, _ => exact R1 4 _ rfl
  have HRW : Hid (∀ k, k < 5 → W1.cell? ⟨g, k, none⟩ = some (.string (mkW k))) := RW
  clear RW R1
  go_enter Tryd.func42, Tryd.ntmps42
  go_wp2
  go_loopw [1, 7, 8] (fun i v k' wr => ∃ (k p : Nat) (ns : List Int), k ≤ 4 ∧ k' = .int .i64 k ∧ i = .int .i64 p ∧ Hid (fstK t a k = some (ns, p)) ∧ Hid (ns.length = k) ∧ (∀ x ∈ ns, 0 ≤ x ∧ x < 10000) ∧ a ≤ p ∧ p ≤ t.size ∧ (0 < k → a < p) ∧ wr.ownsRow M 2 1 v ns.length (intCells ns) ∧ Below M W1 wr ∧ M ≤ wr.heap.size) (fun _ _ k' _ => 5 - (intOf k').toNat)
  case atStart => exact ⟨0, a, [], by omega, rfl, rfl, rfl, rfl, fun x hx => (by cases hx), Nat.le_refl _, ha, fun h => absurd h (by omega), o2, (by rw [← HM.out]; exact b2), by omega⟩
  case round =>
    obtain ⟨k, p, ns, hk, rfl, rfl, hF, hL, hB, hap, hpt, hlt0, o, bM, zM⟩ := hrel
    obtain ⟨va, vc, hve⟩ := shapeI o
    subst hve
    have qk : (k : Int) < 5 := by omega
    have hc := (bM.cell (p := ⟨g, k, none⟩) (show g < M by omega)).trans (HRW.out k (by omega))
    have BB : Below w.heap.size w wr := b1.trans (bM.mono (by rw [hg]; omega))
    obtain ⟨s1, s2⟩ := mkW_bd k
    have hW := fun V => l3Word t (mkW k) p V ht s1 (by omega) hpt
    have hwb := wd_bd (t := t) (w := mkW k) hpt
    have stp_none : wd t (mkW k) p < 0 → Hid (fst1 t a = none) := fun h => by
      by_cases k4 : k = 4
      · subst k4
        show _ = _
        unfold fst1
        rw [hF.out]
        simp only [Option.bind_some]
        rw [if_pos h]
      · exact fst_none (3 - k) (k + 1) (by rw [fstK, hF.out]; simp only [Option.bind_some]; unfold stp; simp only []; rw [if_pos h]) (by omega)
    have stp_none2 : ¬ wd t (mkW k) p < 0 → nmE t (wd t (mkW k) p).toNat < 0 → k < 4 → Hid (fst1 t a = none) := fun h h2 k4 =>
      fst_none (3 - k) (k + 1) (by rw [fstK, hF.out]; simp only [Option.bind_some]; unfold stp; simp only []; rw [if_neg h, if_pos h2]) (by omega)
    have stp_go : ¬ wd t (mkW k) p < 0 → ¬ nmE t (wd t (mkW k) p).toNat < 0 → Hid (fstK t a (k + 1) = some (ns ++ [nmV t (wd t (mkW k) p).toNat], (nmE t (wd t (mkW k) p).toNat).toNat)) := fun h h2 => by
      show _ = _
      rw [fstK, hF.out]
      simp only [Option.bind_some]
      unfold stp
      simp only []
      rw [if_neg h, if_neg h2]
    have fin : k = 4 → ¬ wd t (mkW k) p < 0 → Hid (fst1 t a = some (ns, (wd t (mkW k) p).toNat)) := fun k4 h => by
      subst k4
      show _ = _
      unfold fst1
      rw [hF.out]
      simp only [Option.bind_some]
      rw [if_neg h]
    obtain ⟨D, hD⟩ : ∃ D, wd t (mkW k) p = D := ⟨_, rfl⟩
    rw [hD] at hW hwb stp_none stp_none2 stp_go fin
    obtain ⟨wk, hwk⟩ : ∃ x, mkW k = x := ⟨_, rfl⟩
    rw [hwk] at hc hW hwb s1
    clear hD hF hwk s2
    go_wp2_with fail
    refine (hW _).mono ?_; rintro e wr ⟨rfl, rfl⟩
    clear hW hc
    by_cases hd : D < 0
    · have HR := stp_none hd
      clear stp_none stp_none2 stp_go fin hwb
      go_wp2
      refine bodyPost_ret (v := .tuple #[.slice none 0 0, .int .i64 (-1)]) (by simp [results, Tryd.results42, go_sem]) rfl ?_
      exact .inl ⟨HR.out, rfl, BB⟩
    obtain ⟨q, rfl, hqt, hpq⟩ := hwb (by omega)
    have hqp : p < q := by omega
    by_cases k4 : k = 4
    · have HR := fin k4 (by omega)
      subst k4
      have hd' : ¬ (q : Int) < 0 := hd
      have own' := ownMonoI o (show w.heap.size ≤ M by omega)
      have HLn := hL
      clear stp_none stp_none2 stp_go fin hd
      go_wp2
      refine bodyPost_ret (v := .tuple #[.slice va ns.length vc, .int .i64 q]) (by simp [results, Tryd.results42, go_sem]) rfl ?_
      exact .inr ⟨ns, q, _, HR.out, rfl, own', HLn.out, hB, by omega, hqt, BB⟩
    have k3 : k < 4 := by omega
    have qk4 : ((k : Int) == 4) = false := by simp; omega
    have hd' : ¬ (q : Int) < 0 := hd
    have hN := fun V => l3Number t q V ht hqt
    have hnb := nm_bd (t := t) hqt
    have n1 := fun h => stp_none2 (by omega) h k3
    have n2 := fun h => stp_go (by omega) h
    simp only [Int.toNat_natCast] at n1 n2
    obtain ⟨X, hX⟩ : ∃ X, nmV t q = X := ⟨_, rfl⟩
    obtain ⟨Y, hY⟩ : ∃ Y, nmE t q = Y := ⟨_, rfl⟩
    simp only [hX, hY] at hN hnb n1 n2
    clear hX hY stp_none stp_none2 stp_go fin hd
    go_wp2_with fail
    refine (hN _).mono ?_; rintro e wr ⟨rfl, rfl⟩
    clear hN
    by_cases hy : Y < 0
    · have HR := n1 hy
      clear n1 n2 hnb
      go_wp2
      refine bodyPost_ret (v := .tuple #[.slice none 0 0, .int .i64 (-1)]) (by simp [results, Tryd.results42, go_sem]) rfl ?_
      exact .inl ⟨HR.out, rfl, BB⟩
    obtain ⟨r, rfl, hrt, hqr, hx0, hx1⟩ := hnb (by omega)
    have HS := n2 (by omega)
    simp only [Int.toNat_natCast] at HS
    have hy' : ¬ (r : Int) < 0 := hy
    have hvb : ∀ j, (Value.slice va ns.length vc).ownBlock = some j → M ≤ j := fun j hj => (o.lt j hj).1
    have hnl : ns.length ≤ 4 := by have := hL.out; omega
    clear n1 n2 hy
    go_wp2_with (at_builtin; refine wpList_append_own_at _ rfl (.tmp 36) (.tmp 38) 65 rfl M 2 i0 (.int .i64 0) 1 8 Tryd.underlying65 hi hz0 hz1 hz2 rfl (by decide) _ _ _ rfl (o.alloc _) ⟨wr.heap.size, 0, none⟩ 1 1 [.int .i64 X] rfl rfl (cell_one_new _ _ _) (by simp [Value.oneCell']) (by unfold maxLen; omega) (by omega) (by simp; omega) ?_; intro v5 w5 o5 g5 _ k5)
    have O6 : Hid (w5.ownsRow M 2 1 v5 (ns ++ [X]).length (intCells (ns ++ [X]))) := by
      have := o5
      rw [List.length_append]
      unfold intCells
      rw [List.map_append]
      exact this
    have B6 : Hid (Below M W1 w5) := (bM.alloc zM _).grown g5 (by simp; omega) (fun j hj => hvb j hj)
    have Z6 : Hid (M ≤ w5.heap.size) := by have := g5.size; simp at this; show _ ≤ _; omega
    have HLn : Hid ((ns ++ [X]).length = k + 1) := by show _ = _; rw [List.length_append, hL.out]; rfl
    have HBn : Hid (∀ x ∈ ns ++ [X], 0 ≤ x ∧ x < 10000) := fun x hx => by
      rcases List.mem_append.1 hx with hx | hx
      · exact hB x hx
      · rw [List.mem_singleton] at hx; subst hx; exact ⟨hx0, hx1⟩
    clear o o5 g5 k5 bM zM BB hL hB
    go_wp2
    go_roundw
    case rel => exact ⟨k + 1, r, ns ++ [X], by omega, by go_num, rfl, HS, HLn, HBn.out, by omega, hrt, fun _ => (by omega), O6.out, B6.out, Z6.out⟩
    case measure => first | (simp [intOf]; omega) | simp [intOf]
end Go.Proofs.YtbghdelpnodijaaDoor.Pp
