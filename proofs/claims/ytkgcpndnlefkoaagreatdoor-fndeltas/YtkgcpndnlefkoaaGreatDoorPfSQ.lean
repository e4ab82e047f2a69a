/- The contracts of spec.l7Parts and spec.PathFault. No statement is proved here. -/
import Derived.Test.YtkgcpndnlefkoaaGreatDoorRows
import Derived.Test.YtkgcpndnlefkoaaGreatDoorLemQ
import Derived.Test.YtkgcpndnlefkoaaGreatDoorLFLemQ
import Derived.Test.YtkgcpndnlefkoaaGreatDoorCutLQ
import Derived.Test.YtkgcpndnlefkoaaGreatDoorIdLQ
import Derived.Test.YtkgcpndnlefkoaaGreatDoorPfCQ
import Derived.Test.YtkgcpndnlefkoaaGreatDoorIterQ
import Derived.WalkKit
import Derived.ProofKit
import Derived.Below
import Derived.WalkSpells
import Derived.Maps.AppendAt
import Derived.Test.YtkgcpndnlefkoaaGreatDoorDTabQ
import Derived.Test.YtkgcpndnlefkoaaGreatDoorInQ
import Derived.Test.YtkgcpndnlefkoaaGreatDoorDlLQ
import Derived.Deep.QuietTactic
import Derived.BigQuiet
import Derived.Deep.RegionWith
import Derived.Deep.RegionHeld
import Derived.Deep.RegionLaw
import Derived.Deep.CutRange
import Derived.Laws.BitsLemmas
import Derived.Laws.Cover1
namespace Go.Proofs.YtkgcpndnlefkoaaGreatDoor
open Go.ChangeShapes Go.WideShapes Go.ChangeAt Go.RowKit

theorem byte_c {c d : UInt8} (h : ((c.toNat : Int) == (d.toNat : Int)) = true) : c = d := by
  apply UInt8.toNat_inj.1
  have := of_decide_eq_true h
  omega
theorem byte_not_c {c d : UInt8} (h : ((c.toNat : Int) == (d.toNat : Int)) = false) : ¬ c = d := by
  intro e
  rw [e] at h
  simp at h
set_option maxHeartbeats 2000000 in
theorem l7Parts (s : ByteArray) (w : World) (hs : s.size ≤ 1048576) :
    Calls Tryz.prog 82 #[.string s] w fun e w' => ∃ v, e = .returned v ∧ w'.ownsRow w.heap.size 9 1 v (cutOf 47 s).length ((cutOf 47 s).map Value.string) ∧ Below w.heap.size w w' := by
  obtain ⟨i0, hi, hz0, hz1, hz2⟩ := info_parts infoString
  go_enter Tryz.func82, Tryz.ntmps82
  go_wp2
  go_loopw [3, 4, 5] (fun v f i wr => ∃ (k fr : Nat) (pre : List ByteArray), i = .int .i64 k ∧ f = .int .i64 fr ∧ pre.length ≤ fr ∧ fr ≤ k ∧ ((k ≤ s.size ∧ Hid (cutOf 47 s = pre ++ cutFrom 47 s fr) ∧ Hid (¬ (47 : UInt8) ∈ sg s fr k)) ∨ (k = s.size + 1 ∧ Hid (cutOf 47 s = pre))) ∧
      wr.ownsRow w.heap.size 9 1 v pre.length (pre.map Value.string) ∧ Below w.heap.size w wr ∧ w.heap.size + 1 ≤ wr.heap.size) (fun _ _ i _ => s.size + 1 - (intOf i).toNat)
  case atStart =>
    refine ⟨0, 0, [], rfl, rfl, Nat.le_refl _, Nat.le_refl _, .inl ⟨Nat.zero_le _, rfl, ?_⟩, ?_, (Below.refl _ _).alloc (Nat.le_refl _) _, by simp⟩
    · show ¬ _; simp [sg]
    · exact World.ownsRow_lit w #[] 0 (Nat.le_refl _) (Nat.zero_le _) rfl
  case round =>
    obtain ⟨k, fr, pre, rfl, rfl, hpl, hfk, hcase, hown, hbel, hsz⟩ := hrel
    rcases hcase with ⟨hk, hL, hN⟩ | ⟨ek, hL⟩
    · have q : (k : Int) ≤ (s.size : Int) := by omega
      by_cases hlt : k < s.size
      · have q2 : ((k : Int) == (s.size : Int)) = false := by simp; omega
        by_cases hz : ((s[k].toNat : Int) == 47) = true
        · have hE := cutFrom_at 47 s fr k hfk hlt hN.out (byte_c hz)
          have hL' : Hid (cutOf 47 s = (pre ++ [s.extract fr k]) ++ cutFrom 47 s (k + 1)) := by
            show _ = _
            rw [hL.out, hE]; simp
          clear hE hL hN
          go_wp2_with (at_builtin; refine wpList_append_own _ rfl (.tmp 23) (.tmp 28) 39 rfl w.heap.size 9 i0 (.string ByteArray.empty) 1 16 Tryz.underlying39 hi hz0 hz1 hz2 rfl (by decide) u3 _ _ rfl (hown.alloc _) ⟨wr.heap.size, 0, none⟩ 1 1 [.string (s.extract fr k)] rfl rfl (cell_one_new _ _ _) (by simp [Value.oneCell']) (by unfold maxLen; omega) (by omega) (by simp; omega) ?_; intro v' w1 hown' hgrow _)
          have hb1 : Below w.heap.size w w1 := (hbel.alloc (by omega) _).grown hgrow (by simp; omega) (fun j hj => (hown.lt j hj).1)
          have hs1 : w.heap.size + 1 ≤ w1.heap.size := by have := hgrow.size; simp at this; omega
          go_roundw
          case rel =>
            refine ⟨k + 1, k + 1, pre ++ [s.extract fr k], by go_num, by go_num, by simp; omega, Nat.le_refl _, .inl ⟨by omega, hL', ?_⟩, ?_, hb1, hs1⟩
            · show ¬ _; simp [sg]
            · simpa using hown'
          case measure => simp [intOf]; omega
        · have hz' : ((s[k].toNat : Int) == 47) = false := by simpa using hz
          have hN' : Hid (¬ (47 : UInt8) ∈ sg s fr (k + 1)) := by
            show ¬ _
            rw [sg_snoc s fr k hfk hlt]
            have := byte_not_c (d := 47) hz'
            simp only [List.mem_append, List.mem_singleton, not_or]
            exact ⟨hN.out, fun e => this e.symm⟩
          clear hz hN
          go_wp2
          go_roundw
          case rel => exact ⟨k + 1, fr, pre, by go_num, rfl, hpl, by omega, .inl ⟨by omega, hL, hN'⟩, hown, hbel, hsz⟩
          case measure => simp [intOf]; omega
      · have ek : k = s.size := by omega
        subst ek
        have hE := cutFrom_last 47 s fr hN.out
        have hL' : Hid (cutOf 47 s = pre ++ [s.extract fr s.size]) := by
          show _ = _
          rw [hL.out, hE]
        clear hE hL hN q
        go_wp2_with (at_builtin; refine wpList_append_own _ rfl (.tmp 23) (.tmp 28) 39 rfl w.heap.size 9 i0 (.string ByteArray.empty) 1 16 Tryz.underlying39 hi hz0 hz1 hz2 rfl (by decide) u3 _ _ rfl (hown.alloc _) ⟨wr.heap.size, 0, none⟩ 1 1 [.string (s.extract fr s.size)] rfl rfl (cell_one_new _ _ _) (by simp [Value.oneCell']) (by unfold maxLen; omega) (by omega) (by simp; omega) ?_; intro v' w1 hown' hgrow _)
        have hb1 : Below w.heap.size w w1 := (hbel.alloc (by omega) _).grown hgrow (by simp; omega) (fun j hj => (hown.lt j hj).1)
        have hs1 : w.heap.size + 1 ≤ w1.heap.size := by have := hgrow.size; simp at this; omega
        go_roundw
        case rel =>
          refine ⟨s.size + 1, s.size + 1, pre ++ [s.extract fr s.size], by go_num, by go_num, by simp; omega, Nat.le_refl _, .inr ⟨rfl, hL'⟩, ?_, hb1, hs1⟩
          simpa using hown'
        case measure => simp [intOf]
    · have q : ¬ (k : Int) ≤ (s.size : Int) := by omega
      clear ek
      go_wp2
      go_ret
      refine ⟨_, rfl, ?_, hbel⟩
      rw [hL.out]
      exact hown

theorem cut_small (c : UInt8) (s : ByteArray) (hs : s.size ≤ 1048576) : ∀ k, k < (cutOf c s).length → ((cutOf c s).getD k ByteArray.empty).size ≤ 9223372036854775807 := by
  intro k hk
  have e : (cutOf c s).getD k ByteArray.empty = (cutOf c s)[k] := by simp [List.getD, hk]
  rw [e]
  have := cutFrom_size c s 0 _ (List.getElem_mem (h := hk))
  omega
set_option maxHeartbeats 2000000 in
theorem specPathFault (s : ByteArray) (w : World) (hs : s.size ≤ 1048576) :
    Calls Tryz.prog 57 #[.string s] w fun e w' => e = .returned (.int .i64 (pf s)) ∧ Below w.heap.size w w' := by
  have hL := fun w => l7Parts s w hs
  have hlen : (cutOf 47 s).length ≤ 1048577 := by have := (cutFrom_len 47 s 0).2; unfold cutOf; omega
  have hsm := cut_small 47 s hs
  have hNf := fun x w => specNameFault x w
  have hmany : 4 < (cutOf 47 s).length → Hid (pf s = 1) := fun h => pf_many h
  have hbad : ∀ k, k < (cutOf 47 s).length → ¬ nf ((cutOf 47 s).getD k ByteArray.empty) = 0 → Hid (pf s = 1) := fun k hk h => pf_bad (x := (cutOf 47 s).getD k ByteArray.empty) (by
    have e : (cutOf 47 s).getD k ByteArray.empty = (cutOf 47 s)[k] := by simp [List.getD, hk]
    rw [e]; exact List.getElem_mem hk) h
  have hok : (cutOf 47 s).length ≤ 4 → (∀ k, k < (cutOf 47 s).length → nf ((cutOf 47 s).getD k ByteArray.empty) = 0) → Hid (pf s = 0) := fun h h2 => pf_ok h (fun x hx => by
    obtain ⟨k, hk, e⟩ := List.mem_iff_getElem.1 hx
    have e' : (cutOf 47 s).getD k ByteArray.empty = (cutOf 47 s)[k] := by simp [List.getD, hk]
    rw [← e, ← e']; exact h2 k hk)
  obtain ⟨T, hT⟩ : ∃ T, cutOf 47 s = T := ⟨_, rfl⟩
  obtain ⟨R, hR⟩ : ∃ R, pf s = R := ⟨_, rfl⟩
  rw [hT] at hL hlen hsm hmany hok
  simp only [hT] at hbad
  rw [hR] at hmany hok ⊢
  simp only [hR] at hbad
  clear hT hR
  go_enter Tryz.func57, Tryz.ntmps57
  go_wp2_with fail
  refine (hL _).mono ?_
  rintro e w1 ⟨v, rfl, o1, b1⟩
  obtain ⟨a1, c1, rfl, s1, -⟩ := SS_of_row o1 rfl hsm
  clear hL o1
  by_cases h4 : 4 < T.length
  · have hR := hmany h4
    have q : (4 : Int) < (T.length : Int) := by omega
    clear hmany hbad hok hNf s1
    go_wp2
    go_ret
    exact ⟨ret_int hR.out.symm, b1⟩
  have q : ¬ (4 : Int) < (T.length : Int) := by omega
  replace hok := hok (by omega)
  clear hmany
  go_wp2
  go_loopw [4] (fun i wr => ∃ k : Nat, k ≤ T.length ∧ i = .int .i64 k ∧ wr = w1 ∧ Hid (∀ j, j < k → nf (T.getD j ByteArray.empty) = 0)) (fun i _ => T.length - (intOf i).toNat)
  case atStart => exact ⟨0, Nat.zero_le _, rfl, rfl, fun j hj => absurd hj (Nat.not_lt_zero _)⟩
  case round =>
    obtain ⟨k, hk, rfl, rfl, hall⟩ := hrel
    by_cases hlt : k < T.length
    · have q2 : (k : Int) < (T.length : Int) := by omega
      obtain ⟨g, off, e, hg, d0⟩ := s1.2 k hlt
      subst e
      have hb := hbad k hlt
      have hN := fun w => hNf (T.getD k ByteArray.empty) w
      have hall' : nf (T.getD k ByteArray.empty) = 0 → Hid (∀ j, j < k + 1 → nf (T.getD j ByteArray.empty) = 0) := fun e j hj => by
        by_cases h : j < k
        · exact hall.out j h
        · rw [show j = k by omega]; exact e
      obtain ⟨x, hx⟩ : ∃ x, T.getD k ByteArray.empty = x := ⟨_, rfl⟩
      rw [hx] at d0 hb hN hall'
      obtain ⟨n, hn⟩ : ∃ n, nf x = n := ⟨_, rfl⟩
      simp only [hn] at hb hN hall'
      clear hbad hok hNf hx hn s1 hall
      by_cases hz : n = 0
      · have hA := hall' hz
        have qn : (n != 0) = false := by simp [hz]
        clear hb hall'
        go_wp2_with (go_at_call 83; refine (hN _).mono ?_; rintro e w2 ⟨rfl, rfl⟩)
        go_roundw
        case rel => exact ⟨k + 1, by omega, by go_num, trivial, hA⟩
        case measure => simp [intOf]; omega
      · have hR := hb hz
        have qn : (n != 0) = true := by simp [hz]
        clear hb hall'
        go_wp2_with (go_at_call 83; refine (hN _).mono ?_; rintro e w2 ⟨rfl, rfl⟩)
        go_ret
        exact ⟨ret_int hR.out.symm, b1⟩
    · have hR := hok (fun j hj => hall.out j (by omega))
      have q2 : ¬ (k : Int) < (T.length : Int) := by omega
      clear hbad hok hNf hall
      go_wp2
      go_ret
      exact ⟨ret_int hR.out.symm, b1⟩
end Go.Proofs.YtkgcpndnlefkoaaGreatDoor
/- Deltas behind a list of deltas. No statement is proved here. -/
set_option linter.unusedVariables false
namespace Go.Proofs.YtkgcpndnlefkoaaGreatDoor.Dl
open Go.ChangeShapes Go.WideShapes Go.ChangeAt Go.RowKit
theorem oneE (l : List Ob) : ∀ u ∈ ocells l, u.oneCell' = true := by
  intro u hu
  unfold ocells rowG at hu
  obtain ⟨j, _, rfl⟩ := List.mem_map.1 hu
  unfold ocell
  repeat (first | rfl | split)
theorem newE (w : World) (f : Ob) : ∀ j u, (ocells [f])[j]? = some u → (w.alloc (.cells #[.string f.1, .string f.2.1.1, .int .i64 f.2.1.2.1, .string f.2.1.2.2, .string f.2.2.1, .int .i64 f.2.2.2.1, .string f.2.2.2.2] 47)).cell? ((⟨w.heap.size, 0, none⟩ : Addr).add j) = some u := by
  intro j u hu
  rw [ocells_one] at hu
  have h := Rs.new w #[.string f.1, .string f.2.1.1, .int .i64 f.2.1.2.1, .string f.2.1.2.2, .string f.2.2.1, .int .i64 f.2.2.2.1, .string f.2.2.2.2] 47 j u hu
  rw [add_plain, Nat.zero_add]
  exact h
theorem wpList_appD {w : World} {ops : Array Oper} {rest : List Oper} {o : Oper} {a : Act} {Q : Exit → Act → World → Prop} (hgd : o.guard = none) (s x : Operand)
    (ho : o.op = .call { callee := .builtin .append, args := #[s, x], argTypes := #[27, 27] })
    (base : Nat) (v : Value) (S0 : List Ob) (hs : a.eval s = v) (hown : w.ownsRow base 47 7 v S0.length (ocells S0))
    (AD : Addr) (f : Ob) (hx : a.eval x = .slice (some AD) 1 1) (hx2 : ∀ j u, (ocells [f])[j]? = some u → w.cell? (AD.add j) = some u)
    (hb : S0.length ≤ 1000000) (hbase : base ≤ w.heap.size)
    (h : ∀ g c w', w'.ownsRow base 47 7 (.slice (some ⟨g, 0, none⟩) (S0 ++ [f]).length c) (S0 ++ [f]).length (ocells (S0 ++ [f])) → w.grownBy w' v.ownBlock → wpList Tryz.prog ops Q rest (a.put o.dst (.slice (some ⟨g, 0, none⟩) (S0 ++ [f]).length c)) w') :
    wpList Tryz.prog ops Q (o :: rest) a w := by
  obtain ⟨i0, hi, hz0, hz1, hz2⟩ := info_parts infoObj
  refine wpList_append_own_at _ hgd s x _ ho base _ i0 (.agg #[.string ⟨#[]⟩, .string ⟨#[]⟩, .int .i64 0, .string ⟨#[]⟩, .string ⟨#[]⟩, .int .i64 0, .string ⟨#[]⟩]) 7 96 Tryz.underlying27 hi hz0 hz1 hz2 rfl (by decide) v _ _ hs hown AD 1 1 (ocells [f]) hx (ocells_length _) hx2 (oneE _) (by unfold maxLen; omega) (by omega) hbase ?_
  intro v' w' o1 g1 _ _
  have hl : (S0 ++ [f]).length = S0.length + 1 := by simp
  obtain ⟨g, c, rfl⟩ : ∃ g c, v' = .slice (some ⟨g, 0, none⟩) (S0.length + 1) c := by
    rcases o1.2 with ⟨_, h0⟩ | ⟨tg, tc, cur, e, _⟩
    · omega
    · exact ⟨tg, tc, e⟩
  have k := h g c w' (by rw [hl, ocells_app]; exact o1) g1
  rw [hl] at k
  exact k
theorem nilD (base : Nat) (w : World) : w.ownsRow base 47 7 (.slice none 0 0) ([] : List Ob).length (ocells []) := ⟨rfl, .inl ⟨rfl, rfl⟩⟩
end Go.Proofs.YtkgcpndnlefkoaaGreatDoor.Dl
