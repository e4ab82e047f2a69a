/- The contracts of EditCount, the program's and the specification's. No statement is proved here. -/
import Derived.Test.YtepbkaidlffaiaaRows
import Derived.Test.YtepbkaidlffaiaaLemQ
import Derived.Test.YtepbkaidlffaiaaStrsQ
import Derived.Test.YtepbkaidlffaiaaLFLemQ
import Derived.Test.YtepbkaidlffaiaaLFQ
import Derived.Test.YtepbkaidlffaiaaComQ
import Derived.Test.YtepbkaidlffaiaaAskedQ
import Derived.Test.YtepbkaidlffaiaaDTabQ
import Derived.Test.YtepbkaidlffaiaaSTabQ
import Derived.Test.YtepbkaidlffaiaaPairsQ
import Derived.Test.YtepbkaidlffaiaaFrQ
import Derived.Test.YtepbkaidlffaiaaChgQ
import Derived.Test.YtepbkaidlffaiaaCoCQ
import Derived.WalkKit
import Derived.ProofKit
import Derived.Below
import Derived.WalkSpells
namespace Go.Proofs.Ytepbkaidlffaiaa
open Go.ChangeShapes Go.WideShapes Go.ChangeAt Go.RowKit

/-- Every number of a change is small. -/
def SmallC (c : Chg) : Prop := (-101 ≤ c.1 ∧ c.1 ≤ 101) ∧ (-101 ≤ c.2.1 ∧ c.2.1 ≤ 101) ∧ (-101 ≤ c.2.2.1 ∧ c.2.2.1 ≤ 101) ∧ (-101 ≤ c.2.2.2 ∧ c.2.2.2 ≤ 101)
theorem chg_small : ∀ (l : List (Nat × Nat)) (i j : Nat), (∀ p ∈ l, p.1 ≤ 100 ∧ p.2 ≤ 100) → i ≤ 101 → j ≤ 101 → ∀ c ∈ chg l i j, SmallC c := by
  intro l
  induction l with
  | nil => intro i j _ _ _ c hc; cases hc
  | cons a l ih =>
    obtain ⟨p, q⟩ := a
    intro i j hp hi hj c hc
    have hpq := hp (p, q) (List.mem_cons_self ..)
    simp only [] at hpq
    have hl : ∀ p ∈ l, p.1 ≤ 100 ∧ p.2 ≤ 100 := fun x hx => hp x (List.mem_cons_of_mem _ hx)
    by_cases h : i < p ∨ j < q
    · rw [chg_more l h] at hc
      rcases List.mem_cons.1 hc with rfl | hc
      · refine ⟨?_, ?_, ?_, ?_⟩ <;> simp only [] <;> omega
      · exact ih _ _ hl (by omega) (by omega) c hc
    · rw [chg_less l h] at hc
      exact ih _ _ hl (by omega) (by omega) c hc
theorem changes_small (xs ys : List ByteArray) (n1 : xs.length ≤ 100) (n2 : ys.length ≤ 100) : ∀ c ∈ changes xs ys, SmallC c := by
  refine chg_small _ 0 0 (fun p hp => ?_) (by omega) (by omega)
  rcases List.mem_append.1 hp with hp | hp
  · have := mat_bd xs ys _ 0 0 (Nat.le_refl _) _ hp; omega
  · rw [List.mem_singleton.1 hp]; exact ⟨n1, n2⟩
theorem changes_length (xs ys : List ByteArray) (n1 : xs.length ≤ 100) : (changes xs ys).length ≤ 101 := by
  have h1 := chg_length (ends xs ys) 0 0
  have h2 := ends_length xs ys
  have h3 := (com_le_length _ xs ys (Nat.le_refl _)).1
  unfold changes
  omega
theorem edits_take (l : List Chg) (k : Nat) (h : k < l.length) : edits (l.take (k + 1)) = edits (l.take k) + ((l.getD k (0, 0, 0, 0)).2.1 + (l.getD k (0, 0, 0, 0)).2.2.2) := by
  unfold edits
  rw [List.take_succ_eq_append_getElem h, List.map_append, List.sum_append]
  simp [List.getD, h]
theorem edits_bd (l : List Chg) (hs : ∀ c ∈ l, SmallC c) : -(202 * (l.length : Int)) ≤ edits l ∧ edits l ≤ 202 * (l.length : Int) := by
  induction l with
  | nil => simp [edits]
  | cons c l ih =>
    have h1 := hs c (List.mem_cons_self ..)
    have h2 := ih (fun x hx => hs x (List.mem_cons_of_mem _ hx))
    obtain ⟨_, h3, _, h4⟩ := h1
    rw [edits_cons]
    simp only [List.length_cons]
    omega
/-- A list of changes that can be read, below block B. -/
def CB (B : Nat) (w : World) (a : Option Addr) (l : List Chg) : Prop :=
  ∀ k, k < l.length → ∃ g off, a = some ⟨g, off, none⟩ ∧ g < B ∧ w.cell? ⟨g, off + k * 4, none⟩ = some (.int .i64 (l.getD k (0, 0, 0, 0)).1) ∧ w.cell? ⟨g, off + k * 4 + 1, none⟩ = some (.int .i64 (l.getD k (0, 0, 0, 0)).2.1) ∧
    w.cell? ⟨g, off + k * 4 + 2, none⟩ = some (.int .i64 (l.getD k (0, 0, 0, 0)).2.2.1) ∧ w.cell? ⟨g, off + k * 4 + 3, none⟩ = some (.int .i64 (l.getD k (0, 0, 0, 0)).2.2.2)
theorem CB.of {w : World} {base : Nat} {v : Value} {l : List Chg} (h : w.ownsRow base 50 4 v l.length (chgCells l)) : ∃ a c, v = .slice a l.length c ∧ CB w.heap.size w a l := by
  rcases h.2 with ⟨rfl, h0⟩ | ⟨g, c, cur, rfl, _, hh, _⟩
  · exact ⟨none, 0, by rw [h0], fun k hk => by omega⟩
  · refine ⟨_, c, rfl, fun k hk => ⟨g, 0, rfl, (Array.getElem?_eq_some_iff.1 hh).1, ?_, ?_, ?_, ?_⟩⟩
    · rw [Nat.zero_add]; have := chgCells_at l k 0 hk (by omega); rw [Nat.add_zero] at this; rw [h.cellAt (k * 4) (by omega), this]; rfl
    · rw [Nat.zero_add, h.cellAt (k * 4 + 1) (by omega), chgCells_at l k 1 hk (by omega)]; rfl
    · rw [Nat.zero_add, h.cellAt (k * 4 + 2) (by omega), chgCells_at l k 2 hk (by omega)]; rfl
    · rw [Nat.zero_add, h.cellAt (k * 4 + 3) (by omega), chgCells_at l k 3 hk (by omega)]; rfl
theorem CB.fr {lo hi B : Nat} {w w' : World} {a : Option Addr} {l : List Chg} (h : CB B w a l) (hF : Fr lo hi w w') (hb : B ≤ lo ∨ hi ≤ lo) : CB B w' a l := fun k hk => by
  obtain ⟨g, off, e, hg, h0, h1, h2, h3⟩ := h k hk
  exact ⟨g, off, e, hg, hF.cell h0 (by omega), hF.cell h1 (by omega), hF.cell h2 (by omega), hF.cell h3 (by omega)⟩
theorem CB.below {B : Nat} {w w' : World} {a : Option Addr} {l : List Chg} (h : CB B w a l) (hb : Below w.heap.size w w') : CB B w' a l := h.fr (Fr.ofBelow (lo := 0) (hi := 0) hb) (.inr (Nat.le_refl _))

/-- The value that EditCount tells. -/
def edV (xs ys : List ByteArray) : Int := if asked xs ys = 0 then edits (changes xs ys) else 0
theorem edV_ok {xs ys : List ByteArray} (h : asked xs ys = 0) : edV xs ys = edits (changes xs ys) := if_pos h
theorem edV_no {xs ys : List ByteArray} (h : ¬ asked xs ys = 0) : edV xs ys = 0 := if_neg h

set_option maxHeartbeats 1000000 in
theorem specEditCount (a1 a2 : Option Addr) (c1 c2 : Nat) (xs ys : List ByteArray) (w : World) (h1 : SS w a1 xs) (h2 : SS w a2 ys) (n1 : xs.length ≤ 1048576) (t1 : tot xs ≤ 1048576) (n2 : ys.length ≤ 1048576) (t2 : tot ys ≤ 1048576) :
    Calls Try.prog 30 #[.slice a1 xs.length c1, .slice a2 ys.length c2] w fun e w' => e = .returned (.agg #[.int .i64 (asked xs ys), .int .i64 (edV xs ys)]) ∧ Below w.heap.size w w' := by
  have hA := fun w h1 h2 => specAsked a1 a2 c1 c2 xs ys w h1 h2 n1 t1 n2 t2
  by_cases h0 : asked xs ys = 0
  · obtain ⟨hx, hy⟩ := asked_zero h0
    have m1 := (lf_zero hx).1
    have m2 := (lf_zero hy).1
    have HV : Hid (edV xs ys = edits (changes xs ys)) := edV_ok h0
    have HA : Hid (asked xs ys = 0) := h0
    rw [h0] at hA
    clear h0 hx hy
    go_enter Try.func30, Try.ntmps30
    go_wp2_with fail
    obtain ⟨W1, hW1⟩ : ∃ W1, w.alloc (.cells #[.int .i64 0, .int .i64 0] 43) = W1 := ⟨_, rfl⟩
    have b1 : Below w.heap.size w W1 := by rw [← hW1]; exact allocBelow _ _
    have z1 : Hid (W1.heap.size = w.heap.size + 1) := by show _ = _; rw [← hW1]; simp
    have r1 : Res2 W1 w.heap.size (.int .i64 0) (.int .i64 0) := by rw [← hW1]; exact Res2.new _ _ _ _
    rw [hW1]
    clear hW1
    have s1 := h1.below b1
    have s2 := h2.below b1
    refine (hA _ s1 s2).mono ?_; rintro e W1 ⟨rfl, rfl⟩
    clear hA
    go_wp2_with fail
    refine (l2Table _ _ _ _ _ _ _ s1 s2 m1 m2).mono ?_; rintro e w2 ⟨g, c, rs, T, rfl, hT, hc, b2⟩
    have d1 := hT.c1 0 (by omega)
    have d2 := hT.c2 0 0 (by omega) (by omega)
    have hle := comAt_le xs ys 0 0
    have hed := edits_changes xs ys
    rw [← comAt_zero] at hed
    obtain ⟨V, hV⟩ : ∃ V : Int, (comAt xs ys 0 0 : Int) = V := ⟨_, rfl⟩
    rw [hc 0 0 (by omega) (by omega), hV] at d2
    rw [hV] at hed
    have v0 : 0 ≤ V := by omega
    have v1 : V ≤ 100 := by omega
    have HD : Hid ((xs.length : Int) + ys.length - 2 * V = edits (changes xs ys)) := hed.symm
    obtain ⟨q, hq⟩ : ∃ q, rs.getD 0 0 = q := ⟨_, rfl⟩
    rw [hq] at d1 d2
    obtain ⟨k0, k1, g0, g1⟩ := r1.below (by have := z1.out; omega) b2
    have BB := b1.trans (b2.mono b1.size)
    clear hq hc hT b2 s1 s2 r1 z1 h1 h2 b1 hle hV hed
    go_wp2
    refine bodyPost_ret (v := .agg #[.int .i64 0, .int .i64 ((xs.length : Int) + ys.length - 2 * V)]) (by simp [results, Try.results30, go_sem, k0, k1]) rfl ⟨?_, below_sets BB (Nat.le_refl _) _ _⟩
    rw [HA.out, HV.out, HD.out]
  · have hb := ne_beq h0
    have HV : Hid (edV xs ys = 0) := edV_no h0
    obtain ⟨v, hv⟩ : ∃ v, asked xs ys = v := ⟨_, rfl⟩
    rw [hv] at hA hb
    have HE : Hid (asked xs ys = v) := hv
    clear h0 hv
    go_enter Try.func30, Try.ntmps30
    go_wp2_with fail
    refine (hA _ (h1.below (allocBelow _ _)) (h2.below (allocBelow _ _))).mono ?_; rintro e w' ⟨rfl, rfl⟩
    go_wp2
    refine bodyPost_ret (v := .agg #[.int .i64 v, .int .i64 0]) (by simp [results, Try.results30, go_sem]) rfl ⟨?_, allocBelow _ _⟩
    rw [HE.out, HV.out]

set_option maxRecDepth 20000 in
set_option maxHeartbeats 2000000 in
theorem implEditCount (a1 a2 : Option Addr) (c1 c2 : Nat) (xs ys : List ByteArray) (w : World) (h1 : SS w a1 xs) (h2 : SS w a2 ys) (n1 : xs.length ≤ 1048576) (n2 : ys.length ≤ 1048576) :
    Calls Try.prog 23 #[.slice a1 xs.length c1, .slice a2 ys.length c2] w fun e w' => e = .returned (.agg #[.int .i64 (asked xs ys), .int .i64 (edV xs ys)]) ∧ Below w.heap.size w w' := by
  have hA := fun w h1 h2 => implAsked a1 a2 c1 c2 xs ys w h1 h2 n1 n2
  by_cases h0 : asked xs ys = 0
  · obtain ⟨hx, hy⟩ := asked_zero h0
    have m1 := (lf_zero hx).1
    have m2 := (lf_zero hy).1
    have HV : Hid (edV xs ys = edits (changes xs ys)) := edV_ok h0
    have HA : Hid (asked xs ys = 0) := h0
    rw [h0] at hA
    clear h0 hx hy
    go_enter Try.func23, Try.ntmps23
    go_wp2_with fail
    obtain ⟨W1, hW1⟩ : ∃ W1, w.alloc (.cells #[.int .i64 0, .int .i64 0] 43) = W1 := ⟨_, rfl⟩
    have b1 : Below w.heap.size w W1 := by rw [← hW1]; exact allocBelow _ _
    have z1 : Hid (W1.heap.size = w.heap.size + 1) := by show _ = _; rw [← hW1]; simp
    have r1 : Res2 W1 w.heap.size (.int .i64 0) (.int .i64 0) := by rw [← hW1]; exact Res2.new _ _ _ _
    rw [hW1]
    clear hW1
    have s1 := h1.below b1
    have s2 := h2.below b1
    refine (hA _ s1 s2).mono ?_; rintro e W1 ⟨rfl, rfl⟩
    clear hA
    have hsm := changes_small xs ys m1 m2
    have hln := changes_length xs ys m1
    go_wp2_with fail
    refine (changesBetween _ _ _ _ _ _ _ s1 s2 m1 m2).mono ?_; rintro e w2 ⟨v, rfl, hown, b2⟩
    obtain ⟨a, c, rfl, hC⟩ := CB.of hown
    have r2 := r1.below (by have := z1.out; omega) b2
    have BB := b1.trans (b2.mono b1.size)
    have hz2 : w.heap.size < w2.heap.size := by have := z1.out; have := b2.size; omega
    obtain ⟨L, hL⟩ : ∃ L, changes xs ys = L := ⟨_, rfl⟩
    have HL : Hid (changes xs ys = L) := hL
    rw [hL] at hsm hln hC ⊢
    clear hL hown b1 b2 z1 r1 s1 s2 h1 h2
    go_wp2
    go_loopw [6, 20] (fun cnt vk wr => ∃ k : Nat, k ≤ L.length ∧ vk = .int .i64 (k : Int) ∧ cnt = .int .i64 (edits (L.take k)) ∧ CB w2.heap.size wr a L ∧ Below w2.heap.size w2 wr) (fun _ vk _ => L.length - (intOf vk).toNat)
    case atStart => exact ⟨0, Nat.zero_le _, rfl, rfl, hC, Below.refl _ _⟩
    case round =>
      clear hC
      obtain ⟨k, hk, rfl, rfl, hC, hbel⟩ := hrel
      have hszr := hbel.size
      by_cases hlt : k < L.length
      · have q : (k : Int) < (L.length : Int) := by omega
        obtain ⟨g, off, e, hg, d0, d1, d2, d3⟩ := hC k hlt
        subst e
        have hcs : SmallC (L.getD k (0, 0, 0, 0)) := by
          have e : L.getD k (0, 0, 0, 0) = L[k] := by simp [List.getD, hlt]
          rw [e]; exact hsm _ (List.getElem_mem hlt)
        have hbd := edits_bd (L.take k) (fun c hc => hsm c (List.mem_of_mem_take hc))
        have htk : (L.take k).length ≤ 101 := by simp; omega
        have HE : Hid (edits (L.take (k + 1)) = edits (L.take k) + ((L.getD k (0, 0, 0, 0)).2.1 + (L.getD k (0, 0, 0, 0)).2.2.2)) := edits_take L k hlt
        obtain ⟨C, hCe⟩ : ∃ C, L.getD k (0, 0, 0, 0) = C := ⟨_, rfl⟩
        obtain ⟨x0, x1, x2, x3⟩ := C
        rw [hCe] at d0 d1 d2 d3 hcs HE
        simp only [] at d0 d1 d2 d3 HE
        obtain ⟨S, hS⟩ : ∃ S, edits (L.take k) = S := ⟨_, rfl⟩
        rw [hS] at hbd HE ⊢
        have hS1 : -21000 ≤ S := by omega
        have hS2 : S ≤ 21000 := by omega
        obtain ⟨_, ⟨e1, e2⟩, _, ⟨e3, e4⟩⟩ := hcs
        simp only [] at e1 e2 e3 e4
        clear hbd htk hCe hS
        go_wp2
        go_roundw
        case rel => exact ⟨k + 1, by omega, by first | rfl | go_num, by rw [HE.out], hC.below (allocBelow _ _), hbel.alloc hszr _⟩
        case measure => first | (simp [intOf]; omega) | simp [intOf]
      · have q : ¬ (k : Int) < (L.length : Int) := by omega
        have e : L.take k = L := List.take_of_length_le (by omega)
        obtain ⟨k0, k1, g0, g1⟩ := r2.below hz2 hbel
        have BB2 := BB.trans (hbel.mono (Nat.le_of_lt hz2))
        rw [e]
        obtain ⟨V, hV⟩ : ∃ V, edits L = V := ⟨_, rfl⟩
        have HD : Hid (edits (changes xs ys) = V) := by show _ = _; rw [HL.out]; exact hV
        rw [hV]
        clear hV e hC hbel r2
        go_wp2
        refine bodyPost_ret (v := .agg #[.int .i64 0, .int .i64 V]) (by simp [results, Try.results23, go_sem, k0, k1]) rfl ⟨?_, below_sets BB2 (Nat.le_refl _) _ _⟩
        rw [HA.out, HV.out, HD.out]
  · have hb := ne_beq h0
    have HV : Hid (edV xs ys = 0) := edV_no h0
    obtain ⟨v, hv⟩ : ∃ v, asked xs ys = v := ⟨_, rfl⟩
    rw [hv] at hA hb
    have HE : Hid (asked xs ys = v) := hv
    clear h0 hv
    go_enter Try.func23, Try.ntmps23
    go_wp2_with fail
    refine (hA _ (h1.below (allocBelow _ _)) (h2.below (allocBelow _ _))).mono ?_; rintro e w' ⟨rfl, rfl⟩
    go_wp2
    refine bodyPost_ret (v := .agg #[.int .i64 v, .int .i64 0]) (by simp [results, Try.results23, go_sem]) rfl ⟨?_, allocBelow _ _⟩
    rw [HE.out, HV.out]
end Go.Proofs.Ytepbkaidlffaiaa
