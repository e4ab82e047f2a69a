/- Proved: at every text FnExactIsBinary returns true (IsBinary answers as its specification, and the text reads as before). No condition: FnExactIsBinarySaid itself. -/
import Derived.Test.YthgoimdlhgdnoagRows
import Derived.Test.YthgoimdlhgdnoagLem
import Derived.Test.YthgoimdlhgdnoagIdxB
import Derived.WalkKit
import Derived.ProofKit
import Derived.OpenShut
import Derived.ShutString
import Derived.Below
namespace Go.Proofs.Ythgoimdlhgdnoag.IsBin
open Go.ChangeShapes Go.WideShapes Go.ChangeAt Go.RowKit
open Go.ChangeMaps (open_string shut_string)

def binB (l : List UInt8) : Bool := decide ((0 : UInt8) ∈ l)
theorem mem_snoc (l : List UInt8) (c : UInt8) (h : ¬ (0 : UInt8) ∈ l) (hc : ¬ (c.toNat : Int) = 0) : ¬ (0 : UInt8) ∈ l ++ [c] := by
  have : ¬ c = 0 := by intro h; apply hc; rw [h]; rfl
  simp only [List.mem_append, List.mem_singleton, not_or]
  exact ⟨h, fun e => this e.symm⟩

set_option maxHeartbeats 400000 in
theorem specIsBinary (s : ByteArray) (w : World) (hs : s.size ≤ maxLen) :
    Calls Try.prog 12 #[.string s] w fun e w' => e = .returned (.bool (binB s.data.toList)) ∧ w' = w := by
  unfold maxLen at hs
  go_enter Try.func12, Try.ntmps12
  go_wp2
  go_loop [3] (fun i => ∃ k : Nat, k ≤ s.size ∧ i = .int .i64 k ∧ Hid (¬ (0 : UInt8) ∈ s.data.toList.take k)) (fun i => s.size - (intOf i).toNat)
  case atStart => exact ⟨0, Nat.zero_le _, rfl, by simp [Hid]⟩
  case round =>
    obtain ⟨k, hk, rfl, hn⟩ := hrel
    by_cases hlt : k < s.size
    · by_cases hz : ((s[k].toNat : Int) == 0) = true
      · have hm : Hid ((0 : UInt8) ∈ s.data.toList) := by
          have : s[k] = 0 := by
            apply UInt8.toNat_inj.1
            have := of_decide_eq_true hz
            simpa using this
          show (0 : UInt8) ∈ s.data.toList
          rw [← this]
          exact List.getElem_mem _
        go_wp2
        go_ret
        exact ⟨ret_bool (decide_eq_true hm.out).symm, rfl⟩
      · have hz' : ((s[k].toNat : Int) == 0) = false := by simpa using hz
        have hn' : Hid (¬ (0 : UInt8) ∈ s.data.toList.take (k + 1)) := by
          show ¬ _
          rw [take_snoc s k hlt]
          exact mem_snoc _ _ hn.out (by simpa using hz)
        clear hz hn
        go_wp2
        go_round
        case rel => exact ⟨k + 1, by omega, by go_num, hn'⟩
        case measure => simp [intOf]; omega
    · have hn2 : Hid (¬ (0 : UInt8) ∈ s.data.toList) := by
        have := hn.out
        rw [List.take_of_length_le (by simp; omega)] at this
        exact this
      go_wp2
      go_ret
      exact ⟨ret_bool (decide_eq_false hn2.out).symm, rfl⟩

theorem implIsBinary (s : ByteArray) (w : World) :
    Calls Try.prog 13 #[.string s] w fun e w' => e = .returned (.bool (binB s.data.toList)) ∧ w' = w := by
  go_enter Try.func13, Try.ntmps13
  go_wp2_with (go_at_call 21; refine (indexByte _ _ _).mono ?_; rintro e w' ⟨rfl, rfl⟩)
  go_ret
  exact ⟨ret_bool (by unfold binB; rw [decide_eq_decide]; exact indexByte_mem _ _), rfl⟩

set_option maxHeartbeats 400000 in
theorem walk (a0 : ByteArray) (w0 : a0.size ≤ maxLen) (w : World) :
    Calls Try.prog 4 #[.string a0] w fun e w' => e = .returned (.bool true) ∧ Grown w w' := by
  by_cases hbig : (1048576 : Int) < (a0.size : Int)
  · go_enter Try.func4, Try.ntmps4
    go_wp2
    go_ret
    exact ⟨rfl, Grown.refl _⟩
  · obtain ⟨r, hr⟩ : ∃ r, r = binB a0.data.toList := ⟨_, rfl⟩
    have hS := fun w => specIsBinary a0 w w0
    have hI := fun w => implIsBinary a0 w
    rw [← hr] at hS hI
    clear hr
    go_enter Try.func4, Try.ntmps4
    go_wp2_with (first | (go_at_call 12; refine (hS _).mono ?_; rintro e w' ⟨rfl, rfl⟩) | (go_at_call 13; refine (hI _).mono ?_; rintro e w' ⟨rfl, rfl⟩))
    go_ret
    exact ⟨rfl, Grown.refl _⟩

set_option linter.unusedVariables false
theorem own : ownKnob Try.prog.godebug = none := by kernel_rfl
set_option maxRecDepth 100000 in
theorem lifted (os : Os) (started : os.Started) (H : Type) (enc : TypeId × Value → H) :
    ReturnsInHanded {} Try.checked os 4 .any (Rows.fnExactIsBinarySpec.pre6 enc Try.prog Try.f4 Rows.fnExactIsBinaryRow.domain false) (Rows.fnExactIsBinarySpec.post enc Try.prog Try.f4 false true false false) := by
  refine returnsInHanded_of_change (C := Try.checked) own started (by kernel_rfl) Try.func4
    (ChangeSpec.witness6 (enc := enc) (C := Try.checked) false ⟨#[], #[.string ByteArray.empty], []⟩ 8 (by kernel_rfl) (by kernel_rfl) (by kernel_rfl) (by kernel_rfl)) ?_
  intro W base args ds gs before hval0 hW hcnd _
  have hval : ∀ (j : Nat) t v, Try.f4.params[j]? = some t → args[j]? = some v → Value.okWide Try.prog W .any base t v := hval0
  have hW' := hW
  obtain ⟨p, q, hA0, hV, rfl, hfz, hnd⟩ := hW
  have hA : DataW.TrodAll enc Try.prog W 0 (fun _ => true) true Try.f4.params.toList args.toList ds p := hA0
  rw [Try.params4] at hA hval
  obtain ⟨v0, vs0, d0, ds0, p0, q0, hargs, rfl, rfl, h0, r0⟩ := trodAll_cons hA
  obtain ⟨rfl, rfl, rfl⟩ := trodAll_nil r0
  obtain rfl : args = #[v0] := by cases args; simp_all
  obtain ⟨rfl, rfl⟩ := trodVars_none hV
  obtain ⟨a0, rfl, rfl, rfl, w0⟩ := open_string Try.underlying9 (hval 0 9 v0 rfl rfl) h0
  clear hA0 hval0
  simp only [List.append_nil] at hW'
  refine (walk a0 w0 W).mono fun e W' ⟨he, hg⟩ => ?_
  subst he
  exact ⟨_, rfl, post_of_same (pa := []) (pv := []) hW' (fun _ _ _ => (trodAll_cons_mk (shut_bool Try.underlying4 _) trodAll_mk0)) (fun sp _ => (trodAll_cons_mk (shut_string Try.underlying9 w0) trodAll_mk0)) (fun _ _ => rfl) rfl
    (hg.frame _) hg.2.1 (ok_one (by kernel_rfl) rfl (okWide_bool_mk Try.underlying4 _))⟩

theorem over : Rows.fnExactIsBinaryRow.holds Try.pinned (OpenSpec.ofChange Rows.fnExactIsBinarySpec) :=
  OpenClaim.holds_of_wide 4 Try.f4 rfl rfl rfl rfl rfl rfl rfl ⟨rfl, rfl, rfl, rfl, rfl⟩ rfl rfl rfl rfl rfl (by kernel_rfl) Try.func4 (by kernel_rfl)
    (of_decide_eq_true (by kernel_rfl)) (by unfold Func.isWrapper; first | (rw [if_pos (by decide +kernel)]; kernel_rfl) | (rw [if_neg (by decide +kernel)]; exact ⟨rfl, rfl⟩))
    (fun os started H enc _ => lifted os started H enc)

theorem proved : Rows.FnExactIsBinarySaid := over
end Go.Proofs.Ythgoimdlhgdnoag.IsBin
namespace Go.Proofs.Ythgoimdlhgdnoag
theorem fnExactIsBinary_proved : Rows.FnExactIsBinarySaid := IsBin.proved
end Go.Proofs.Ythgoimdlhgdnoag
