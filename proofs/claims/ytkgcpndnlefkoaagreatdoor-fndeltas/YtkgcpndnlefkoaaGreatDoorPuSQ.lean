/- The contracts of l5Copy, l5Put and the specification's PutObject. No statement is proved here. -/
import Derived.Test.YtkgcpndnlefkoaaGreatDoorRows
import Derived.Test.YtkgcpndnlefkoaaGreatDoorLemQ
import Derived.Test.YtkgcpndnlefkoaaGreatDoorDTabQ
import Derived.Test.YtkgcpndnlefkoaaGreatDoorInQ
import Derived.Test.YtkgcpndnlefkoaaGreatDoorDigCQ
import Derived.Test.YtkgcpndnlefkoaaGreatDoorObLQ
import Derived.Test.YtkgcpndnlefkoaaGreatDoorGtSQ
import Derived.Test.YtkgcpndnlefkoaaGreatDoorOcAQ
import Derived.Test.YtkgcpndnlefkoaaGreatDoorShQQ
import Derived.WalkKit
import Derived.ProofKit
import Derived.Below
import Derived.WalkSpells
import Derived.Maps.AppendAt
import Derived.Deep.QuietTactic
import Derived.BigQuiet
import Derived.Laws.Cover1
namespace Go.Proofs.YtkgcpndnlefkoaaGreatDoor
open Go.ChangeShapes Go.WideShapes Go.ChangeAt Go.RowKit

theorem newsO {B : Nat} {w : World} {g off : Nat} {l : List Ob} (h : OB B w (some ⟨g, off, none⟩) l) : ∀ j u, (ocells l)[j]? = some u → w.cell? ((⟨g, off, none⟩ : Addr).add j) = some u := by
  intro j u hj
  have hl : j < l.length * 3 := by
    have := (List.getElem?_eq_some_iff.1 hj).1
    rw [ocells_length] at this; exact this
  obtain ⟨g', off', e, _, d0, d1, d2⟩ := h (j / 3) (by omega)
  simp only [Option.some.injEq, Addr.mk.injEq] at e
  obtain ⟨rfl, rfl, _⟩ := e
  rw [add_plain]
  rw [ocells, rowG_at _ _ _ hl] at hj
  have hm : j % 3 = 0 ∨ j % 3 = 1 ∨ j % 3 = 2 := by omega
  rcases hm with e | e | e
  · rw [show j = j / 3 * 3 by omega, ocell0] at hj
    rw [show off + j = off + j / 3 * 3 by omega, d0]; exact hj
  · rw [show j = j / 3 * 3 + 1 by omega, ocell1] at hj
    rw [show off + j = off + j / 3 * 3 + 1 by omega, d1]; exact hj
  · rw [show j = j / 3 * 3 + 2 by omega, ocell2] at hj
    rw [show off + j = off + j / 3 * 3 + 2 by omega, d2]; exact hj
theorem oneO (l : List Ob) : ∀ u ∈ ocells l, u.oneCell' = true := by
  intro u hu
  unfold ocells rowG at hu
  obtain ⟨t, _, rfl⟩ := List.mem_map.1 hu
  unfold ocell
  split
  · rfl
  · split <;> rfl
theorem OB.takeO {B : Nat} {w : World} {a : Option Addr} {l : List Ob} (h : OB B w a l) (n : Nat) : OB B w a (l.take n) := fun k hk => by
  have hk1 : k < n ∧ k < l.length := by simp at hk; omega
  have e : (l.take n).getD k onil = l.getD k onil := by simp [List.getD, hk1.1]
  rw [e]; exact h k hk1.2
theorem OB.dropO {B : Nat} {w : World} {g off : Nat} {l : List Ob} (h : OB B w (some ⟨g, off, none⟩) l) (n : Nat) : OB B w (some ⟨g, off + n * 3, none⟩) (l.drop n) := fun k hk => by
  have hk1 : n + k < l.length := by simp at hk; omega
  have e : (l.drop n).getD k onil = l.getD (n + k) onil := by simp [List.getD, List.getElem?_drop]
  obtain ⟨g', off', e1, hg, d0, d1, d2⟩ := h (n + k) hk1
  simp only [Option.some.injEq, Addr.mk.injEq] at e1
  obtain ⟨rfl, rfl, _⟩ := e1
  rw [e]
  refine ⟨g, off + n * 3, rfl, hg, ?_, ?_, ?_⟩
  · rw [show off + n * 3 + k * 3 = off + (n + k) * 3 by omega]; exact d0
  · rw [show off + n * 3 + k * 3 + 1 = off + (n + k) * 3 + 1 by omega]; exact d1
  · rw [show off + n * 3 + k * 3 + 2 = off + (n + k) * 3 + 2 by omega]; exact d2
theorem newsCells (w : World) (vs : Array Value) (t : TypeId) : ∀ j u, vs.toList[j]? = some u → (w.alloc (.cells vs t)).cell? ((⟨w.heap.size, 0, none⟩ : Addr).add j) = some u := fun j u hj => by
  rw [add_plain, Nat.zero_add]; exact Rs.new w vs t j u hj
/-- append of objects that can be read onto a row of objects that is owned. -/
theorem wpList_appO {w : World} {ops : Array Oper} {rest : List Oper} {o : Oper} {a : Act} {Q : Exit → Act → World → Prop} (hgd : o.guard = none) (s x : Operand)
    (ho : o.op = .call { callee := .builtin .append, args := #[s, x], argTypes := #[53, 53] })
    (base : Nat) (v : Value) (S0 : List Ob) (hs : a.eval s = v) (hown : w.ownsRow base 93 3 v S0.length (ocells S0))
    (AD : Addr) (cx : Nat) (S1 : List Ob) (hx : a.eval x = .slice (some AD) S1.length cx) (hx2 : ∀ j u, (ocells S1)[j]? = some u → w.cell? (AD.add j) = some u)
    (hb : S0.length + S1.length ≤ 2097152) (hbase : base ≤ w.heap.size)
    (h : ∀ v' w', w'.ownsRow base 93 3 v' (S0 ++ S1).length (ocells (S0 ++ S1)) → w.grownBy w' v.ownBlock → (v' = .slice none 0 0 ↔ v = .slice none 0 0 ∧ S1.length = 0) → (v'.ownBlock = v.ownBlock ∨ v'.ownBlock = some w.heap.size) → wpList Tryz.prog ops Q rest (a.put o.dst v') w') :
    wpList Tryz.prog ops Q (o :: rest) a w := by
  obtain ⟨i0, hi, hz0, hz1, hz2⟩ := info_parts infoObj
  refine wpList_append_own_at _ hgd s x _ ho base _ i0 _ 3 40 Tryz.underlying53 hi hz0 hz1 hz2 rfl (by decide) v _ _ hs hown AD S1.length cx (ocells S1) hx (ocells_length _) hx2 (oneO _) (by unfold maxLen; omega) (by omega) hbase ?_
  intro v' w' o1 g1 n1 k1
  refine h v' w' ?_ g1 n1 k1
  rw [List.length_append, ocells_app]; exact o1
/-- A row of objects, in memory of its own, that is not nil. -/
def ON (L : List Ob) (w : World) (e : Ending) (w' : World) : Prop := ∃ v, e = .returned v ∧ v ≠ .slice none 0 0 ∧ w'.ownsRow w.heap.size 93 3 v L.length (ocells L) ∧ Below w.heap.size w w'

theorem l5Copy (g off : Nat) (c : Nat) (l : List Ob) (w : World) (h : OB w.heap.size w (some ⟨g, off, none⟩) l) (hn : l.length ≤ 1048576) :
    Calls Tryz.prog 61 #[.slice (some ⟨g, off, none⟩) l.length c] w fun e w' => ON l w e w' := by
  go_enter Tryz.func61, Tryz.ntmps61
  have o1 : (w.alloc (.cells #[] 93)).ownsRow w.heap.size 93 3 (.slice (some ⟨w.heap.size, 0, none⟩) 0 0) ([] : List Ob).length (ocells []) := World.ownsRow_lit w #[] 0 (Nat.le_refl _) (Nat.zero_le _) rfl
  have s1 := newsO (h.below (allocBelow w (.cells #[] 93)))
  go_wp2_with (at_builtin; refine wpList_appO rfl (.tmp 3) (.tmp 4) rfl w.heap.size _ _ rfl o1 _ _ _ rfl s1 (by simp; omega) (by simp) ?_; intro v3 w3 o3 g3 n3 _)
  have hB3 : Below w.heap.size w w3 := (allocBelow w _).grown g3 (by simp) (fun j hj => (o1.lt j hj).1)
  have hN3 : v3 ≠ .slice none 0 0 := fun e => by have := (n3.1 e).1; cases this
  simp only [List.nil_append] at o3
  clear o1 s1 g3 h n3
  go_ret
  exact ⟨_, rfl, hN3, o3, hB3⟩

/-- What a put of right data into a right store answers. -/
def pC (l : List Ob) (k : Int) (d : ByteArray) : Int := if 0 ≤ fz l (idN k d) then (if (l.getD (fz l (idN k d)).toNat onil).2.2 = d then 0 else 6) else if 200 ≤ l.length then 2 else 0
def pL (l : List Ob) (k : Int) (d : ByteArray) : List Ob := if pC l k d = 0 then (if 0 ≤ fz l (idN k d) then l else insO l (idN k d, k, d)) else []
def pS (l : List Ob) (k : Int) (d : ByteArray) : ByteArray := if pC l k d = 0 then idN k d else ByteArray.empty
theorem p_same {l : List Ob} {k : Int} {d : ByteArray} {n : Nat} (h : fz l (idN k d) = n) (e : (l.getD n onil).2.2 = d) : pC l k d = 0 ∧ pL l k d = l ∧ pS l k d = idN k d := by
  have h0 : 0 ≤ fz l (idN k d) := by omega
  have e1 : pC l k d = 0 := by unfold pC; rw [if_pos h0, h, if_pos (by simpa using e)]
  exact ⟨e1, by unfold pL; rw [if_pos e1, if_pos h0], by unfold pS; rw [if_pos e1]⟩
theorem p_other {l : List Ob} {k : Int} {d : ByteArray} {n : Nat} (h : fz l (idN k d) = n) (e : ¬ (l.getD n onil).2.2 = d) : pC l k d = 6 ∧ pL l k d = [] ∧ pS l k d = ByteArray.empty := by
  have h0 : 0 ≤ fz l (idN k d) := by omega
  have e1 : pC l k d = 6 := by unfold pC; rw [if_pos h0, h, if_neg (by simpa using e)]
  have e2 : ¬ pC l k d = 0 := by omega
  exact ⟨e1, if_neg e2, if_neg e2⟩
theorem p_full {l : List Ob} {k : Int} {d : ByteArray} (h : fz l (idN k d) = -1) (e : 200 ≤ l.length) : pC l k d = 2 ∧ pL l k d = [] ∧ pS l k d = ByteArray.empty := by
  have h0 : ¬ 0 ≤ fz l (idN k d) := by omega
  have e1 : pC l k d = 2 := by unfold pC; rw [if_neg h0, if_pos e]
  have e2 : ¬ pC l k d = 0 := by omega
  exact ⟨e1, if_neg e2, if_neg e2⟩
theorem p_new {l : List Ob} {k : Int} {d : ByteArray} (h : fz l (idN k d) = -1) (e : ¬ 200 ≤ l.length) : pC l k d = 0 ∧ pL l k d = insO l (idN k d, k, d) ∧ pS l k d = idN k d := by
  have h0 : ¬ 0 ≤ fz l (idN k d) := by omega
  have e1 : pC l k d = 0 := by unfold pC; rw [if_neg h0, if_neg e]
  exact ⟨e1, by unfold pL; rw [if_pos e1, if_neg h0], by unfold pS; rw [if_pos e1]⟩
/-- What l5Put answers: a row that is not nil where the code is 0. -/
def PT (C : Int) (L : List Ob) (s : ByteArray) (w : World) (e : Ending) (w' : World) : Prop := ∃ v, e = .returned (.tuple #[v, .string s, .int .i64 C]) ∧ (C = 0 → v ≠ .slice none 0 0) ∧ w'.ownsRow w.heap.size 93 3 v L.length (ocells L) ∧ Below w.heap.size w w'
theorem ret_put {v v' : Value} {s s' : ByteArray} {c c' : Int} (h0 : v = v') (h1 : s = s') (h2 : c = c') : Ending.returned (.tuple #[v, .string s, .int .i64 c]) = .returned (.tuple #[v', .string s', .int .i64 c']) := by rw [h0, h1, h2]
theorem nilRowO (base : Nat) (w : World) : w.ownsRow base 93 3 (.slice none 0 0) 0 (ocells []) := ⟨rfl, .inl ⟨rfl, rfl⟩⟩

set_option maxRecDepth 20000 in
set_option maxHeartbeats 2000000 in
theorem l5Put (g off c : Nat) (l : List Ob) (k : Int) (d : ByteArray) (w : World) (h : OB w.heap.size w (some ⟨g, off, none⟩) l) (hc : l.length ≤ c) (hn : l.length ≤ 1048576) (hk : inB k 1 3 = true) (hd : d.size ≤ 1048576) :
    Calls Tryz.prog 39 #[.slice (some ⟨g, off, none⟩) l.length c, .int .i64 k, .string d] w fun e w' => PT (pC l k d) (pL l k d) (pS l k d) w e w' := by
  have hI := fun w => l5Id k d w hk hd
  have hF := fun w h => l5Find (some ⟨g, off, none⟩) c l (idN k d) w h (by omega)
  have hSame : ∀ n : Nat, fz l (idN k d) = n → (l.getD n onil).2.2 = d → Hid (pC l k d = 0 ∧ pL l k d = l ∧ pS l k d = idN k d) := fun n h e => p_same h e
  have hOther : ∀ n : Nat, fz l (idN k d) = n → ¬ (l.getD n onil).2.2 = d → Hid (pC l k d = 6 ∧ pL l k d = [] ∧ pS l k d = ByteArray.empty) := fun n h e => p_other h e
  have hFull : fz l (idN k d) = -1 → 200 ≤ l.length → Hid (pC l k d = 2 ∧ pL l k d = [] ∧ pS l k d = ByteArray.empty) := fun h e => p_full h e
  have hNew : fz l (idN k d) = -1 → ¬ 200 ≤ l.length → Hid (pC l k d = 0 ∧ pL l k d = insO l (idN k d, k, d) ∧ pS l k d = idN k d) := fun h e => p_new h e
  have hcs := fz_cases l (idN k d)
  have hT := insAt_take l (idN k d)
  have hA := insAt_at l (idN k d)
  have hle := insAt_le l (idN k d)
  have hIns : insO l (idN k d, k, d) = l.take (insAt l (idN k d)) ++ (idN k d, k, d) :: l.drop (insAt l (idN k d)) := rfl
  obtain ⟨N, hN⟩ : ∃ N, insAt l (idN k d) = N := ⟨_, rfl⟩
  rw [hN] at hT hA hle hIns
  obtain ⟨C, hC⟩ : ∃ C, pC l k d = C := ⟨_, rfl⟩
  obtain ⟨L, hL⟩ : ∃ L, pL l k d = L := ⟨_, rfl⟩
  obtain ⟨S, hS⟩ : ∃ S, pS l k d = S := ⟨_, rfl⟩
  obtain ⟨X, hX⟩ : ∃ X, insO l (idN k d, k, d) = X := ⟨_, rfl⟩
  rw [hX] at hNew hIns
  obtain ⟨Id, hId⟩ : ∃ Id, idN k d = Id := ⟨_, rfl⟩
  rw [hC, hL, hS] at hSame hOther hFull hNew ⊢
  rw [hId] at hI hF hSame hOther hFull hNew hcs hT hA hIns
  clear hN hC hL hS hX hId
  go_enter Tryz.func39, Tryz.ntmps39
  go_wp2_with fail
  refine (hI _).mono ?_; rintro e w ⟨rfl, rfl⟩
  go_wp2_with fail
  refine (hF _ h).mono ?_; rintro e w ⟨rfl, rfl⟩
  clear hI hF
  rcases hcs with e | ⟨n, e, hn, e2⟩
  · have q0 : ¬ (0 : Int) ≤ fz l Id := by omega
    by_cases h200 : 200 ≤ l.length
    · have HC := (hFull e h200)
      have q2 : (200 : Int) ≤ (l.length : Int) := by omega
      clear hSame hOther hFull hNew hT hA e h200
      go_wp2
      refine bodyPost_ret (v := .tuple #[.slice none 0 0, .string ⟨#[]⟩, .int .i64 2]) (by simp [results, Tryz.results39, go_sem]) rfl ?_
      obtain ⟨rfl, rfl, rfl⟩ := HC.out
      exact ⟨_, rfl, fun h => by omega, nilRowO _ _, Below.refl _ _⟩
    · have HC := (hNew e h200)
      have q2 : ¬ (200 : Int) ≤ (l.length : Int) := by omega
      have HI : Hid (X = l.take N ++ (Id, k, d) :: l.drop N) := hIns
      clear hSame hOther hFull hNew e h200 hIns
      go_wp2
      go_loop [11] (fun i => ∃ m : Nat, m ≤ N ∧ i = .int .i64 m) (fun i => N - (intOf i).toNat)
      case atStart => exact ⟨0, by omega, rfl⟩
      case round =>
        obtain ⟨m, hm, rfl⟩ := hrel
        by_cases hmN : m < N
        · have q : (m : Int) < (l.length : Int) := by omega
          obtain ⟨g', off', e1, _, d0, _, _⟩ := h m (by omega)
          simp only [Option.some.injEq, Addr.mk.injEq] at e1
          obtain ⟨rfl, rfl, _⟩ := e1
          have hb := hT m hmN
          clear hT hA
          obtain ⟨O, hO⟩ : ∃ O, l.getD m onil = O := ⟨_, rfl⟩
          rw [hO] at d0 hb
          clear hO
          go_wp2
          go_round
          case rel => exact ⟨m + 1, by omega, by go_num⟩
          case measure => simp [intOf]; omega
        · obtain rfl : m = N := by omega
          have hend : l.length ≤ m ∨ (m < l.length ∧ Op.bytesLess (l.getD m onil).1.toList Id.toList = false) := by
            by_cases hml : m < l.length
            · exact .inr ⟨hml, hA hml⟩
            · exact .inl (by omega)
          clear hT hA
          have q3 : (m : Int) ≤ (c : Int) := by omega
          have q4 : (m : Int) ≤ (l.length : Int) := by omega
          have q5 : (l.length : Int) ≤ (c : Int) := by omega
          have tl : (l.take m).length = m := by simp; omega
          have HCp := fun c' w h => l5Copy g off c' (l.take m) w h (by omega)
          rw [tl] at HCp
          rcases hend with hend | ⟨hml, hbl⟩
          · have q : ¬ (m : Int) < (l.length : Int) := by omega
            have hd0 : l.drop m = [] := List.drop_eq_nil_of_le hend
            by_cases hcm : c = m
            · have hnil : ∀ (W : World) (AD : Addr) j u, (ocells (l.drop m))[j]? = some u → W.cell? (AD.add j) = some u := fun W AD j u hj => by
                rw [hd0] at hj; simp [ocells, rowG] at hj
              go_wp2_with fail
              refine (HCp _ _ (h.takeO m)).mono ?_; rintro e w1 ⟨v1, rfl, n1, o1, b1⟩
              have h1 := h.below b1
              have bA := allocBelow w1 (.cells #[.string Id, .int .i64 k, .string d] 93)
              have oA := o1.kept (grownOfBelow bA none) (blockCases _ _ (fun _ _ h => by cases h))
              have nA := newsCells w1 #[.string Id, .int .i64 k, .string d] 93
              have lt1 := o1.lt
              have s1 := b1.size
              have dl : (l.drop m).length = l.length - m := by simp
              have hlg : ∀ j, v1.ownBlock = some j → w.heap.size ≤ j := fun j hj => (lt1 j hj).1
              clear HCp
              go_wp2_with (first
                | (at_builtin; refine wpList_appO rfl (.tmp 52) (.tmp 57) rfl w.heap.size v1 (l.take m) rfl oA ⟨w1.heap.size, 0, none⟩ 1 [(Id, k, d)] rfl (by rw [ocells_one]; exact nA) (by simp; omega) (by simp; omega) ?_; intro v2 w2 o2 g2 n2 k2
                   have B2 : Below w.heap.size w w2 := (b1.trans (bA.mono s1)).grown g2 (by simp; omega) (fun j hj => hlg j hj)
                   have h2 := h.below B2
                   have s2 := B2.size
                   have n2' : v2 ≠ .slice none 0 0 := fun e => n1 (n2.1 e).1
                   have hlg2 : ∀ j, v2.ownBlock = some j → w.heap.size ≤ j := fun j hj => (o2.lt j hj).1)
                | (at_builtin; refine wpList_appO rfl (.tmp 59) (.tmp 62) rfl w.heap.size v2 (l.take m ++ [(Id, k, d)]) rfl o2 ⟨g, off, none⟩ _ (l.drop m) (by first | (rw [dl]; rfl) | (rw [hd0]; rfl)) (hnil _ _) (by simp; omega) s2 ?_; intro v3 w3 o3 g3 n3 k3)
                | go_in)
              have B3 : Below w.heap.size w w3 := B2.grown g3 s2 (fun j hj => hlg2 j hj)
              have n3' : v3 ≠ .slice none 0 0 := fun e => n2' (n3.1 e).1
              rw [List.append_assoc, List.singleton_append, ← HI.out] at o3
              clear h1 bA oA nA lt1 hlg o1 b1 n1 o2 g2 n2 k2 B2 h2 n2' hlg2 g3 n3 k3
              refine bodyPost_ret (v := .tuple #[v3, .string Id, .int .i64 0]) (by simp [results, Tryz.results39, go_sem]) rfl ?_
              obtain ⟨rfl, rfl, rfl⟩ := HC.out
              exact ⟨_, rfl, fun _ => n3', o3, B3⟩
            · have hnil : ∀ (W : World) (AD : Addr) j u, (ocells (l.drop m))[j]? = some u → W.cell? (AD.add j) = some u := fun W AD j u hj => by
                rw [hd0] at hj; simp [ocells, rowG] at hj
              go_wp2_with fail
              refine (HCp _ _ (h.takeO m)).mono ?_; rintro e w1 ⟨v1, rfl, n1, o1, b1⟩
              have h1 := h.below b1
              have bA := allocBelow w1 (.cells #[.string Id, .int .i64 k, .string d] 93)
              have oA := o1.kept (grownOfBelow bA none) (blockCases _ _ (fun _ _ h => by cases h))
              have nA := newsCells w1 #[.string Id, .int .i64 k, .string d] 93
              have lt1 := o1.lt
              have s1 := b1.size
              have dl : (l.drop m).length = l.length - m := by simp
              have hlg : ∀ j, v1.ownBlock = some j → w.heap.size ≤ j := fun j hj => (lt1 j hj).1
              clear HCp
              go_wp2_with (first
                | (at_builtin; refine wpList_appO rfl (.tmp 52) (.tmp 57) rfl w.heap.size v1 (l.take m) rfl oA ⟨w1.heap.size, 0, none⟩ 1 [(Id, k, d)] rfl (by rw [ocells_one]; exact nA) (by simp; omega) (by simp; omega) ?_; intro v2 w2 o2 g2 n2 k2
                   have B2 : Below w.heap.size w w2 := (b1.trans (bA.mono s1)).grown g2 (by simp; omega) (fun j hj => hlg j hj)
                   have h2 := h.below B2
                   have s2 := B2.size
                   have n2' : v2 ≠ .slice none 0 0 := fun e => n1 (n2.1 e).1
                   have hlg2 : ∀ j, v2.ownBlock = some j → w.heap.size ≤ j := fun j hj => (o2.lt j hj).1)
                | (at_builtin; refine wpList_appO rfl (.tmp 59) (.tmp 62) rfl w.heap.size v2 (l.take m ++ [(Id, k, d)]) rfl o2 ⟨g, off + m * 3, none⟩ _ (l.drop m) (by first | (rw [dl]; rfl) | (rw [hd0]; rfl)) (hnil _ _) (by simp; omega) s2 ?_; intro v3 w3 o3 g3 n3 k3)
                | go_in)
              have B3 : Below w.heap.size w w3 := B2.grown g3 s2 (fun j hj => hlg2 j hj)
              have n3' : v3 ≠ .slice none 0 0 := fun e => n2' (n3.1 e).1
              rw [List.append_assoc, List.singleton_append, ← HI.out] at o3
              clear h1 bA oA nA lt1 hlg o1 b1 n1 o2 g2 n2 k2 B2 h2 n2' hlg2 g3 n3 k3
              refine bodyPost_ret (v := .tuple #[v3, .string Id, .int .i64 0]) (by simp [results, Tryz.results39, go_sem]) rfl ?_
              obtain ⟨rfl, rfl, rfl⟩ := HC.out
              exact ⟨_, rfl, fun _ => n3', o3, B3⟩
          · have q : (m : Int) < (l.length : Int) := by omega
            have hcm : ¬ c = m := by omega
            obtain ⟨g', off', e1, _, d0, _, _⟩ := h m hml
            simp only [Option.some.injEq, Addr.mk.injEq] at e1
            obtain ⟨rfl, rfl, _⟩ := e1
            obtain ⟨O, hO⟩ : ∃ O, l.getD m onil = O := ⟨_, rfl⟩
            rw [hO] at d0 hbl
            clear hO
            go_wp2_with fail
            refine (HCp _ _ (h.takeO m)).mono ?_; rintro e w1 ⟨v1, rfl, n1, o1, b1⟩
            have h1 := h.below b1
            have bA := allocBelow w1 (.cells #[.string Id, .int .i64 k, .string d] 93)
            have oA := o1.kept (grownOfBelow bA none) (blockCases _ _ (fun _ _ h => by cases h))
            have nA := newsCells w1 #[.string Id, .int .i64 k, .string d] 93
            have lt1 := o1.lt
            have s1 := b1.size
            have dl : (l.drop m).length = l.length - m := by simp
            have hlg : ∀ j, v1.ownBlock = some j → w.heap.size ≤ j := fun j hj => (lt1 j hj).1
            clear HCp
            go_wp2_with (first
              | (at_builtin; refine wpList_appO rfl (.tmp 52) (.tmp 57) rfl w.heap.size v1 (l.take m) rfl oA ⟨w1.heap.size, 0, none⟩ 1 [(Id, k, d)] rfl (by rw [ocells_one]; exact nA) (by simp; omega) (by simp; omega) ?_; intro v2 w2 o2 g2 n2 k2
                 have B2 : Below w.heap.size w w2 := (b1.trans (bA.mono s1)).grown g2 (by simp; omega) (fun j hj => hlg j hj)
                 have h2 := h.below B2
                 have s2 := B2.size
                 have n2' : v2 ≠ .slice none 0 0 := fun e => n1 (n2.1 e).1
                 have hlg2 : ∀ j, v2.ownBlock = some j → w.heap.size ≤ j := fun j hj => (o2.lt j hj).1)
              | (at_builtin; refine wpList_appO rfl (.tmp 59) (.tmp 62) rfl w.heap.size v2 (l.take m ++ [(Id, k, d)]) rfl o2 ⟨g, off + m * 3, none⟩ _ (l.drop m) (by rw [dl]; rfl) (newsO (h2.dropO m)) (by simp; omega) s2 ?_; intro v3 w3 o3 g3 n3 k3)
              | go_in)
            have B3 : Below w.heap.size w w3 := B2.grown g3 s2 (fun j hj => hlg2 j hj)
            have n3' : v3 ≠ .slice none 0 0 := fun e => n2' (n3.1 e).1
            rw [List.append_assoc, List.singleton_append, ← HI.out] at o3
            clear h1 bA oA nA lt1 hlg o1 b1 n1 o2 g2 n2 k2 B2 h2 n2' hlg2 g3 n3 k3
            refine bodyPost_ret (v := .tuple #[v3, .string Id, .int .i64 0]) (by simp [results, Tryz.results39, go_sem]) rfl ?_
            obtain ⟨rfl, rfl, rfl⟩ := HC.out
            exact ⟨_, rfl, fun _ => n3', o3, B3⟩
  · have q0 : (0 : Int) ≤ fz l Id := by omega
    have q0' : (0 : Int) ≤ (n : Int) := by omega
    have q1 : (n : Int) < (l.length : Int) := by omega
    replace hSame := hSame n e
    replace hOther := hOther n e
    rw [e]
    obtain ⟨g', off', e1, _, d0, _, d2⟩ := h n hn
    simp only [Option.some.injEq, Addr.mk.injEq] at e1
    obtain ⟨rfl, rfl, _⟩ := e1
    have HCp := fun w h => l5Copy g off c l w h (by omega)
    obtain ⟨O, hO⟩ : ∃ O, l.getD n onil = O := ⟨_, rfl⟩
    rw [hO] at d0 d2 hSame hOther
    obtain ⟨x0, x1, x2⟩ := O
    simp only [] at d2 hSame hOther
    clear hO hFull hNew hT hA hIns d0 e2
    by_cases ed : x2 = d
    · have HC := hSame ed
      have qd : (x2.toList == d.toList) = true := beq_bytes_true ed
      clear hSame hOther ed e
      go_wp2_with fail
      refine (HCp _ h).mono ?_; rintro e w1 ⟨v1, rfl, n1, o1, b1⟩
      clear HCp d2 qd
      go_wp2
      refine bodyPost_ret (v := .tuple #[v1, .string Id, .int .i64 0]) (by simp [results, Tryz.results39, go_sem]) rfl ?_
      obtain ⟨rfl, rfl, rfl⟩ := HC.out
      exact ⟨_, rfl, fun _ => n1, o1, b1⟩
    · have HC := hOther ed
      have qd : (x2.toList == d.toList) = false := beq_bytes_false ed
      clear hSame hOther ed e HCp
      go_wp2
      refine bodyPost_ret (v := .tuple #[.slice none 0 0, .string ⟨#[]⟩, .int .i64 6]) (by simp [results, Tryz.results39, go_sem]) rfl ?_
      obtain ⟨rfl, rfl, rfl⟩ := HC.out
      exact ⟨_, rfl, fun h => by omega, nilRowO _ _, Below.refl _ _⟩
end Go.Proofs.YtkgcpndnlefkoaaGreatDoor
