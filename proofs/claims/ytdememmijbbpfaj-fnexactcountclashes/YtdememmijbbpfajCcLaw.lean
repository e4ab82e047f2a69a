/- Proved: at every list of chunks FnExactCountClashes returns true (CountClashes answers as its specification, field by field, and changes no argument). No condition: FnExactCountClashesSaid itself. -/
import Derived.Test.YtdememmijbbpfajRows
import Derived.Test.YtdememmijbbpfajLem
import Derived.Test.YtdememmijbbpfajStrs
import Derived.Test.YtdememmijbbpfajMarks
import Derived.Test.YtdememmijbbpfajLFLem
import Derived.Test.YtdememmijbbpfajLF
import Derived.Test.YtdememmijbbpfajDTab
import Derived.Test.YtdememmijbbpfajOwn
import Derived.Test.YtdememmijbbpfajFr
import Derived.Test.YtdememmijbbpfajIn
import Derived.Test.YtdememmijbbpfajSameC
import Derived.Test.YtdememmijbbpfajHkT
import Derived.Test.YtdememmijbbpfajCkL
import Derived.Test.YtdememmijbbpfajCkC
import Derived.Test.YtdememmijbbpfajCkB
import Derived.Test.YtdememmijbbpfajCkI
import Derived.Test.YtdememmijbbpfajCkS
import Derived.Test.YtdememmijbbpfajCkN
import Derived.Test.YtdememmijbbpfajCkT
import Derived.Test.YtdememmijbbpfajCkU
import Derived.Test.YtdememmijbbpfajOpK
import Derived.Test.YtdememmijbbpfajCkD
import Derived.WalkKit
import Derived.ProofKit
import Derived.OpenShut
import Derived.Below
import Derived.Carry
namespace Go.Proofs.Ytdememmijbbpfaj.CcLaw
open Go.ChangeShapes Go.WideShapes Go.ChangeAt Go.RowKit

theorem ownOne (b n cap : Nat) : ∀ j, (Value.slice (some ⟨b, 0, none⟩) n cap).ownBlock = some j → b ≤ j ∧ j < b + 1 := by
  intro j hj
  have e : b = j := by simpa [Value.ownBlock] using hj
  omega
set_option maxRecDepth 20000 in
set_option maxHeartbeats 4000000 in
theorem walk (a1 : Option Addr) (c1 : Nat) (l1k : List Ck) (w : World) (h1 : KB w.heap.size w a1 l1k) (hl1 : LongK l1k) (hf1 : FitsK l1k) (n1 : l1k.length ≤ 9223372036854775807) :
    Calls Try.prog 8 #[.slice a1 l1k.length c1] w fun e w' => e = .returned (.bool true) ∧ Below w.heap.size w w' := by
  have BB := Below.refl w.heap.size w
  have A1 := h1
  clear h1
  obtain ⟨Q1, hQ1⟩ : ∃ Q, leftK 1048576 l1k = Q := ⟨_, rfl⟩
  have HQ1 : Hid (leftK 1048576 l1k = Q1) := hQ1
  have hZ1 := fun W h => szChunkS a1 c1 l1k 1048576 W h hl1 n1 (by omega) (by omega)
  rw [hQ1] at hZ1
  by_cases hx1 : Q1 < 0
  · clear hQ1
    go_enter Try.func8, Try.ntmps8
    go_wp2_with fail
    refine (hZ1 _ (A1.mono (by omega))).mono ?_; rintro e w1 ⟨rfl, b⟩
    have F2 : Fr w.heap.size w.heap.size w w1 := Fr.ofBelow b
    replace A1 := A1.fr F2 (.inl (by omega))
    replace BB := F2.below BB (by omega) (by omega)
    have SF2 := F2.size
    clear b F2
    go_wp2_with fail
    go_ret
    exact ⟨rfl, BB⟩
  have hq1a : 0 ≤ Q1 := by omega
  have hq1b : Q1 ≤ 1048576 := by rw [← HQ1.out]; exact leftK_le (by omega) (by omega)
  have hx1' : ¬ leftK 1048576 l1k < 0 := by rw [hQ1]; exact hx1
  obtain ⟨p1, g1⟩ := leftK_nums hx1'
  have at1 := allT_nonneg (lnsAll l1k)
  have hs1 : ShortK l1k := short_of (by omega)
  have l1 : l1k.length ≤ 1048576 := by omega
  have sd1 : ∀ i, i < 3 → (sideL i l1k).length ≤ 1048576 := fun i _ => by have := (side_le i l1k).1; omega
  have st1 : ∀ i, i < 3 → tot (sideL i l1k) ≤ 1048576 := fun i _ => by have := (side_le i l1k).2; omega
  clear hQ1
  have hS : ∀ (a1 : Option Addr) (c1 : Nat) W, KB W.heap.size W a1 l1k → Calls Try.prog 34 #[.slice a1 l1k.length c1] W fun e w' => e = .returned (.agg #[.int .i64 (cf l1k), .int .i64 (ccV l1k)]) ∧ Below W.heap.size W w' := fun a1 c1 W h1 => specCountClashes a1 c1 l1k W h1 l1 hs1 hf1 sd1 st1
  have hI : ∀ (a1 : Option Addr) (c1 : Nat) W, KB W.heap.size W a1 l1k → Calls Try.prog 35 #[.slice a1 l1k.length c1] W fun e w' => e = .returned (.agg #[.int .i64 (cf l1k), .int .i64 (ccV l1k)]) ∧ Below W.heap.size W w' := fun a1 c1 W h1 => implCountClashes a1 c1 l1k W h1 l1 hs1 hf1 sd1
  obtain ⟨r, hrr⟩ : ∃ r, cf l1k = r := ⟨_, rfl⟩
  obtain ⟨V, hV⟩ : ∃ V, ccV l1k = V := ⟨_, rfl⟩
  rw [hrr, hV] at hS hI
  clear hrr hV hx1' p1 g1 at1 sd1 st1
  go_enter Try.func8, Try.ntmps8
  go_wp2_with fail
  refine (hZ1 _ (A1.mono (by omega))).mono ?_; rintro e w1 ⟨rfl, b⟩
  have F2 : Fr w.heap.size w.heap.size w w1 := Fr.ofBelow b
  replace A1 := A1.fr F2 (.inl (by omega))
  replace BB := F2.below BB (by omega) (by omega)
  have SF2 := F2.size
  clear b F2
  go_wp2_with fail
  refine (toChunkS a1 c1 l1k _ (A1.mono (by omega)) hs1 l1).mono ?_; rintro e w3 ⟨rfl, ⟨slx1, x1⟩, b⟩
  have jx1 : ∀ j, (Value.slice (some ⟨w1.heap.size, 0, none⟩) l1k.length l1k.length).ownBlock = some j → w1.heap.size ≤ j ∧ j < w3.heap.size := fun j hj => x1.row.lt j hj
  have sx1 : ∀ n, n < l1k.length * 3 → ∀ j, (slx1 n).ownBlock = some j → w1.heap.size ≤ j ∧ j < w3.heap.size := fun n hn j hj => (x1.each n hn).lt j hj
  have F4 : Fr w.heap.size w.heap.size w1 w3 := Fr.ofBelow b
  replace A1 := A1.fr F4 (.inl (by omega))
  replace BB := F4.below BB (by omega) (by omega)
  have SF4 := F4.size
  clear b F4
  go_wp2_with fail
  refine (hS _ _ _ (x1.read hf1)).mono ?_; rintro e w5 ⟨rfl, bp⟩
  have F6 : Fr w.heap.size w.heap.size w3 w5 := Fr.ofBelow bp
  replace A1 := A1.fr F6 (.inl (by omega))
  replace BB := F6.below BB (by omega) (by omega)
  replace x1 := x1.fr F6 (fun j hj => by have := jx1 j hj; omega) (fun n hn j hj => by have := sx1 n hn j hj; omega)
  have SF6 := F6.size
  clear bp F6
  clear x1 jx1 sx1
  obtain ⟨W7, hW7⟩ : ∃ W, w5.alloc (.cells #[.int .i64 r, .int .i64 V] 59) = W := ⟨_, rfl⟩
  have Rp : Rs W7 w5.heap.size [.int .i64 r, .int .i64 V] := by rw [← hW7]; exact Rs.new _ _ _
  have F8 : Fr w.heap.size w.heap.size w5 W7 := by rw [← hW7]; exact Fr.ofAlloc _ _
  have zW7 : w5.heap.size < W7.heap.size := by rw [← hW7]; simp
  replace A1 := A1.fr F8 (.inl (by omega))
  replace BB := F8.below BB (by omega) (by omega)
  have SF8 := F8.size
  clear F8
  go_wp2_with fail
  refine (toChunkS a1 c1 l1k _ (A1.mono (by omega)) hs1 l1).mono ?_; rintro e w9 ⟨rfl, ⟨slX1, X1⟩, b⟩
  have jX1 : ∀ j, (Value.slice (some ⟨W7.heap.size, 0, none⟩) l1k.length l1k.length).ownBlock = some j → W7.heap.size ≤ j ∧ j < w9.heap.size := fun j hj => X1.row.lt j hj
  have sX1 : ∀ n, n < l1k.length * 3 → ∀ j, (slX1 n).ownBlock = some j → W7.heap.size ≤ j ∧ j < w9.heap.size := fun n hn j hj => (X1.each n hn).lt j hj
  have F10 : Fr w.heap.size w.heap.size W7 w9 := Fr.ofBelow b
  replace A1 := A1.fr F10 (.inl (by omega))
  replace BB := F10.below BB (by omega) (by omega)
  replace Rp := F10.rs Rp (by omega)
  have SF10 := F10.size
  clear b F10
  clear hW7
  go_wp2_with fail
  refine (hI _ _ _ (X1.read hf1)).mono ?_; rintro e w11 ⟨rfl, bq⟩
  have F12 : Fr w.heap.size w.heap.size w9 w11 := Fr.ofBelow bq
  replace A1 := A1.fr F12 (.inl (by omega))
  replace BB := F12.below BB (by omega) (by omega)
  replace Rp := F12.rs Rp (by omega)
  replace X1 := X1.fr F12 (fun j hj => by have := jX1 j hj; omega) (fun n hn j hj => by have := sX1 n hn j hj; omega)
  have SF12 := F12.size
  clear bq F12
  obtain ⟨W13, hW13⟩ : ∃ W, w11.alloc (.cells #[.int .i64 r, .int .i64 V] 59) = W := ⟨_, rfl⟩
  have Rq : Rs W13 w11.heap.size [.int .i64 r, .int .i64 V] := by rw [← hW13]; exact Rs.new _ _ _
  have F14 : Fr w.heap.size w.heap.size w11 W13 := by rw [← hW13]; exact Fr.ofAlloc _ _
  have zW13 : w11.heap.size < W13.heap.size := by rw [← hW13]; simp
  replace A1 := A1.fr F14 (.inl (by omega))
  replace BB := F14.below BB (by omega) (by omega)
  replace Rp := F14.rs Rp (by omega)
  replace X1 := X1.fr F14 (fun j hj => by have := jX1 j hj; omega) (fun n hn j hj => by have := sX1 n hn j hj; omega)
  have SF14 := F14.size
  clear F14
  have dp0 := Rp 0 _ rfl
  have dp1 := Rp 1 _ rfl
  have dq0 := Rq 0 _ rfl
  have dq1 := Rq 1 _ rfl
  go_wp2_with fail
  refine (eqIntResK _ _ _).mono ?_; rintro e w15 ⟨rfl, b⟩
  have F16 : Fr w.heap.size w.heap.size W13 w15 := Fr.ofBelow b
  replace A1 := A1.fr F16 (.inl (by omega))
  replace BB := F16.below BB (by omega) (by omega)
  replace Rp := F16.rs Rp (by omega)
  replace X1 := X1.fr F16 (fun j hj => by have := jX1 j hj; omega) (fun n hn j hj => by have := sX1 n hn j hj; omega)
  replace Rq := F16.rs Rq (by omega)
  have SF16 := F16.size
  clear b F16
  clear dp0 dp1
  clear dq0 dq1
  clear hW13
  go_wp2_with fail
  refine (toChunkS a1 c1 l1k _ (A1.mono (by omega)) hs1 l1).mono ?_; rintro e w17 ⟨rfl, ⟨sly, y⟩, b⟩
  have jy : ∀ j, (Value.slice (some ⟨w15.heap.size, 0, none⟩) l1k.length l1k.length).ownBlock = some j → w15.heap.size ≤ j ∧ j < w17.heap.size := fun j hj => y.row.lt j hj
  have sy : ∀ n, n < l1k.length * 3 → ∀ j, (sly n).ownBlock = some j → w15.heap.size ≤ j ∧ j < w17.heap.size := fun n hn j hj => (y.each n hn).lt j hj
  have F18 : Fr w.heap.size w.heap.size w15 w17 := Fr.ofBelow b
  replace A1 := A1.fr F18 (.inl (by omega))
  replace BB := F18.below BB (by omega) (by omega)
  replace Rp := F18.rs Rp (by omega)
  replace X1 := X1.fr F18 (fun j hj => by have := jX1 j hj; omega) (fun n hn j hj => by have := sX1 n hn j hj; omega)
  replace Rq := F18.rs Rq (by omega)
  have SF18 := F18.size
  clear b F18
  go_wp2_with fail
  refine (eqChunkS _ _ _ _ l1k _ (X1.read hf1) (y.read hf1) hs1 l1).mono ?_; rintro e w19 ⟨rfl, b⟩
  clear y jy sy
  have F20 : Fr w.heap.size w.heap.size w17 w19 := Fr.ofBelow b
  replace A1 := A1.fr F20 (.inl (by omega))
  replace BB := F20.below BB (by omega) (by omega)
  replace Rp := F20.rs Rp (by omega)
  replace X1 := X1.fr F20 (fun j hj => by have := jX1 j hj; omega) (fun n hn j hj => by have := sX1 n hn j hj; omega)
  replace Rq := F20.rs Rq (by omega)
  have SF20 := F20.size
  clear b F20
  go_wp2_with fail
  go_ret
  exact ⟨rfl, BB⟩

set_option linter.unusedVariables false
theorem laidOut : laidOutB Try.prog = true := by kernel_rfl
theorem own : ownKnob Try.prog.godebug = none := by kernel_rfl
set_option maxRecDepth 100000 in
theorem lifted (os : Os) (started : os.Started) (H : Type) (enc : TypeId × Value → H) :
    ReturnsInHanded {} Try.checked os 8 .any (Rows.fnExactCountClashesSpec.pre6 enc Try.prog Try.f8 Rows.fnExactCountClashesRow.domain false) (Rows.fnExactCountClashesSpec.post enc Try.prog Try.f8 false true false false) := by
  refine returnsInHanded_of_change (C := Try.checked) own started (by kernel_rfl) Try.func8
    (ChangeSpec.witness6 (enc := enc) (C := Try.checked) false ⟨#[], #[.slice none 0 0], []⟩ 8 (by kernel_rfl) (by kernel_rfl) (by kernel_rfl) (by kernel_rfl)) ?_
  intro W base args ds gs before hval0 hW hcnd _
  have hval : ∀ (j : Nat) t v, Try.f8.params[j]? = some t → args[j]? = some v → Value.okWide Try.prog W .any base t v := hval0
  have hW' := hW
  obtain ⟨p, q, hA0, hV, rfl, hfz, hnd⟩ := hW
  have hA : DataW.TrodAll enc Try.prog W 0 (fun _ => true) true Try.f8.params.toList args.toList ds p := hA0
  rw [Try.params8] at hA hval
  obtain ⟨v0, vs0, d0, ds0, p0, q0, hargs, rfl, rfl, h0, r0⟩ := trodAll_cons hA
  obtain ⟨rfl, rfl, rfl⟩ := trodAll_nil r0
  obtain rfl : args = #[v0] := by cases args; simp_all
  obtain ⟨rfl, rfl⟩ := trodVars_none hV
  obtain ⟨a0, len0, cap0, rfl⟩ := okWide_slice Try.underlying22 (hval 0 22 v0 rfl rfl)
  have k0 := h0
  have lt0 : ∀ x ∈ p0, x.block < W.heap.size := by obtain ⟨m, hm⟩ := k0; exact DataW.trod_lt m _ _ _ hm
  obtain ⟨ss0, rfl, w0, lg0, ft0, n0⟩ := openKB h0
  clear hA0 hval0
  refine (walk a0 cap0 ss0 W w0 lg0 ft0 n0).mono fun e W' ⟨he, bel⟩ => ?_
  subst he
  exact ⟨_, rfl, _, _, _, [], _, [], hW', trodAll_mk1 (shut_bool Try.underlying4 _), (trodAll_cons_mk (Below.trod laidOut (by kernel_rfl) (of_decide_eq_true (by kernel_rfl)) k0 bel lt0) trodAll_mk0), rfl, bel.frame _, fun h => by cases h⟩

theorem over : Rows.fnExactCountClashesRow.holds Try.pinned (OpenSpec.ofChange Rows.fnExactCountClashesSpec) :=
  OpenClaim.holds_of_wide 8 Try.f8 rfl rfl rfl rfl rfl rfl rfl ⟨rfl, rfl, rfl, rfl, rfl⟩ rfl rfl rfl rfl rfl (by kernel_rfl) Try.func8 (by kernel_rfl)
    (of_decide_eq_true (by kernel_rfl)) (by unfold Func.isWrapper; first | (rw [if_pos (by decide +kernel)]; kernel_rfl) | (rw [if_neg (by decide +kernel)]; exact ⟨rfl, rfl⟩))
    (fun os started H enc _ => lifted os started H enc)

theorem proved : Rows.FnExactCountClashesSaid := over
end Go.Proofs.Ytdememmijbbpfaj.CcLaw
namespace Go.Proofs.Ytdememmijbbpfaj
theorem fnExactCountClashes_proved : Rows.FnExactCountClashesSaid := CcLaw.proved
end Go.Proofs.Ytdememmijbbpfaj
