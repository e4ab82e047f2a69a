/- The contracts of what ClashText calls. No statement is proved here. -/
import Derived.Test.YtciddfpkcdicaaaDoorRows
import Derived.Test.YtciddfpkcdicaaaDoorLemQ
import Derived.Test.YtciddfpkcdicaaaDoorLFLemQ
import Derived.Test.YtciddfpkcdicaaaDoorHkTQ
import Derived.Test.YtciddfpkcdicaaaDoorDTabQ
import Derived.Test.YtciddfpkcdicaaaDoorBldQ
import Derived.Test.YtciddfpkcdicaaaDoorBldFQ
import Derived.Test.YtciddfpkcdicaaaDoorCkLQ
import Derived.Test.YtciddfpkcdicaaaDoorCkCQ
import Derived.Test.YtciddfpkcdicaaaDoorCkBQ
import Derived.Test.YtciddfpkcdicaaaDoorRtMQ
import Derived.WalkKit
import Derived.ProofKit
import Derived.Below
import Derived.WalkSpells
import Derived.Laws.Concat
import Derived.Deep.QuietTactic
import Derived.BigQuiet
namespace Go.Proofs.YtciddfpkcdicaaaDoor
open Go.ChangeShapes Go.WideShapes Go.ChangeAt Go.RowKit

theorem last_split {l : List UInt8} (h : l ≠ []) : ∃ t x, l = t ++ [x] := ⟨l.dropLast, l.getLast h, (List.dropLast_concat_getLast h).symm⟩
theorem dataPos {s : ByteArray} (hp : 0 < s.size) : s.data.toList ≠ [] := fun h => by
  have h1 : s.data.toList.length = 0 := by rw [h]; rfl
  have h2 : s.data.toList.length = s.size := by simp
  omega
theorem endsL_snoc (t : List UInt8) (x : UInt8) : endsL (t ++ [x]) = decide (x = 10) := by
  unfold endsL
  rw [List.getLast?_append]
  simp
theorem lastByte (s : ByteArray) (hp : 0 < s.size) : ((s.extract (s.size - 1) s.size).toList == [10]) = endsL s.data.toList := by
  have e : (s.extract (s.size - 1) s.size).toList = s.data.toList.drop (s.data.toList.length - 1) := by
    rw [ByteArray.toList_eq, ByteArray.data_extract, Array.toList_extract]
    simp only [List.extract]
    rw [List.take_of_length_le (by simp)]
    simp
  rw [e]
  obtain ⟨t, x, hx⟩ := last_split (dataPos hp)
  rw [hx, endsL_snoc, show (t ++ [x]).drop ((t ++ [x]).length - 1) = [x] by simp]
  by_cases h : x = 10
  · subst h; rfl
  · rw [decide_eq_false h]
    simp [h]

set_option maxHeartbeats 1000000 in
theorem hasSuffix0 (s : ByteArray) (w : World) (hp : 0 < s.size) (hs : s.size ≤ 9223372036854775807) :
    Calls Tryd.prog 71 #[.string s, .string ⟨#[10]⟩] w fun e w' => e = .returned (.bool (endsL s.data.toList)) ∧ w' = w := by
  have hE := lastByte s hp
  have q1 : (1 : Int) ≤ (s.size : Int) := by omega
  go_enter Tryd.func71, Tryd.ntmps71
  go_wp2
  go_ret
  exact ⟨rfl, rfl⟩
theorem hasSuffix (s : ByteArray) (w : World) (hp : 0 < s.size) (hs : s.size ≤ 9223372036854775807) :
    Calls Tryd.prog 54 #[.string s, .string ⟨#[10]⟩] w fun e w' => e = .returned (.bool (endsL s.data.toList)) ∧ w' = w := by
  go_enter Tryd.func54, Tryd.ntmps54
  go_wp2_with fail
  refine (hasSuffix0 s _ hp hs).mono ?_; rintro e w ⟨rfl, rfl⟩
  go_wp2
  go_ret
  exact ⟨rfl, rfl⟩

theorem bytesOf (l : List UInt8) (s : ByteArray) : (⟨l.toArray⟩ : ByteArray) ++ s = ⟨(l ++ s.data.toList).toArray⟩ := by
  apply WideShapes.bytes_inj
  rw [ByteArray.data_append, Array.toList_append]
theorem lastIdx (s : ByteArray) (hp : 0 < s.size) : (((s[s.size - 1]'(by omega)).toNat : Int) != 10) = !endsL s.data.toList := by
  obtain ⟨t, x, hx⟩ := last_split (dataPos hp)
  have h1 : s[s.size - 1]'(by omega) = x := by
    have h2 : s.data.toList.length = s.size := by simp
    have h3 : s.data.toList[s.size - 1]? = some x := by
      rw [← h2, hx]; simp
    have h4 : s.data.toList[s.size - 1]? = some (s[s.size - 1]'(by omega)) := by
      rw [List.getElem?_eq_getElem (by omega)]; rfl
    rw [h3] at h4
    exact (Option.some.inj h4).symm
  rw [h1, hx, endsL_snoc]
  by_cases h : x = 10
  · subst h; rfl
  · rw [decide_eq_false h]
    have : ¬ (x.toNat : Int) = 10 := fun e => h (by
      apply UInt8.toNat_inj.1
      have : x.toNat = 10 := by omega
      rw [this]; rfl)
    simp [this]

set_option maxRecDepth 20000 in
set_option maxHeartbeats 2000000 in
theorem hasWholeLines (x0 : Int) (a1 a2 a3 : Option Addr) (c1 c2 c3 : Nat) (x1 x2 x3 : List ByteArray) (w : World) (h1 : SS w a1 x1) (h2 : SS w a2 x2) (h3 : SS w a3 x3) (n1 : x1.length ≤ 1048576) (n2 : x2.length ≤ 1048576) (n3 : x3.length ≤ 1048576) :
    Calls Tryd.prog 58 #[.agg #[.int .i64 x0, .slice a1 x1.length c1, .slice a2 x2.length c2, .slice a3 x3.length c3]] w fun e w' => e = .returned (.bool (wh x1 && (wh x2 && wh x3))) ∧ Below w.heap.size w w' := by
  have bW := allocBelow w (.cells #[.int .i64 x0, .slice a1 x1.length c1, .slice a2 x2.length c2, .slice a3 x3.length c3] 40)
  go_enter Tryd.func58, Tryd.ntmps58
  go_wp2_with fail
  refine (listsOf _ _ _ _ _ _ _ _ _ _ _).mono ?_; rintro e w1 ⟨rfl, b1⟩
  have B1 := below_step bW (by simp) b1
  have S1 := h1.below B1
  have S2 := h2.below B1
  have S3 := h3.below B1
  clear b1 bW h1 h2 h3
  go_wp2
  go_loopw [9] (fun i wr => ∃ k : Nat, k ≤ 3 ∧ i = .int .i64 k ∧ Hid (∀ j, j < k → wh (sd j (x0, x1, x2, x3)) = true) ∧ wr = w1) (fun i _ => 3 - (intOf i).toNat)
  case atStart => exact ⟨0, by omega, rfl, fun j hj => absurd hj (Nat.not_lt_zero _), rfl⟩
  case round =>
    obtain ⟨k, hk, rfl, hA, hwr⟩ := hrel
    subst hwr
    by_cases hlt : k < 3
    · have q3 : (k : Int) < 3 := by omega
      obtain ⟨ai, ci, ix, si, ni⟩ : ∃ ai ci, (∀ w, (Instr.index 56 (.agg #[.slice a1 x1.length c1, .slice a2 x2.length c2, .slice a3 x3.length c3]) (.int .i64 (k : Int))).run Tryd.prog w = .ok (.slice ai (sd k (x0, x1, x2, x3)).length ci) w) ∧ SS wr ai (sd k (x0, x1, x2, x3)) ∧ (sd k (x0, x1, x2, x3)).length ≤ 1048576 := by
        have h3 : k = 0 ∨ k = 1 ∨ k = 2 := by omega
        rcases h3 with rfl | rfl | rfl
        · exact ⟨a1, c1, fun _ => by kernel_rfl, S1, n1⟩
        · exact ⟨a2, c2, fun _ => by kernel_rfl, S2, n2⟩
        · exact ⟨a3, c3, fun _ => by kernel_rfl, S3, n3⟩
      have hNo : wh (sd k (x0, x1, x2, x3)) = false → Hid ((wh x1 && (wh x2 && wh x3)) = false) := fun h => by
        show _ = _
        have h3 : k = 0 ∨ k = 1 ∨ k = 2 := by omega
        rcases h3 with rfl | rfl | rfl
        · rw [show wh x1 = false from h]; rfl
        · rw [show wh x2 = false from h]; cases wh x1 <;> rfl
        · rw [show wh x3 = false from h]; cases wh x1 <;> cases wh x2 <;> rfl
      have hYes : wh (sd k (x0, x1, x2, x3)) = true → Hid (∀ j, j < k + 1 → wh (sd j (x0, x1, x2, x3)) = true) := fun h => by
        show ∀ j, _
        intro j hj
        by_cases e : j = k
        · rw [e]; exact h
        · exact hA.out j (by omega)
      obtain ⟨S, hS⟩ : ∃ S, sd k (x0, x1, x2, x3) = S := ⟨_, rfl⟩
      rw [hS] at ix si ni hNo hYes
      clear hS hA
      go_wp2
      obtain ⟨wq, hwq⟩ : ∃ W, W = wr := ⟨_, rfl⟩
      subst hwq
      go_loopw [14] (fun i wx => ∃ m : Nat, m ≤ S.length ∧ i = .int .i64 m ∧ Hid (wh (S.take m) = true) ∧ wx = wq) (fun i _ => S.length - (intOf i).toNat)
      case atStart => exact ⟨0, Nat.zero_le _, rfl, rfl, rfl⟩
      case round =>
        obtain ⟨m, hm, rfl, hW, hwx⟩ := hrel
        subst hwx
        by_cases hmt : m < S.length
        · have q : (m : Int) < (S.length : Int) := by omega
          obtain ⟨b, off, rfl, hb, hc⟩ := si.2 m hmt
          have hsz := si.1 m hmt
          have hbad := fun h => wh_bad (ss := S) hmt h
          have hgo := fun h => wh_take (ss := S) hmt hW.out h
          obtain ⟨s, hse⟩ : ∃ s, S.getD m ByteArray.empty = s := ⟨_, rfl⟩
          rw [hse] at hc hsz hbad hgo
          have hIs := fun w => isLine s true w hsz
          clear hse
          cases ho : okLine s.data.toList true with
          | false =>
            have hC := hNo (hbad ho)
            rw [ho] at hIs
            clear hbad hgo ho hNo hYes
            go_wp2_with fail
            refine (hIs _).mono ?_; rintro e w' ⟨rfl, rfl⟩
            go_wp2
            go_ret
            exact ⟨ret_bool hC.out.symm, B1⟩
          | true =>
            have hC : Hid (wh (S.take (m + 1)) = true) := hgo ho
            rw [ho] at hIs
            clear hbad hgo ho
            go_wp2_with fail
            refine (hIs _).mono ?_; rintro e w' ⟨rfl, rfl⟩
            go_wp2
            go_roundw
            case rel => exact ⟨m + 1, by omega, by go_num, hC, by first | rfl | trivial⟩
            case measure => first | (simp [intOf]; omega) | simp [intOf]
        · have q : ¬ (m : Int) < (S.length : Int) := by omega
          have hC := hYes (by have := hW.out; rw [List.take_of_length_le (by omega)] at this; exact this)
          clear hNo hYes
          go_wp2
          go_roundw
          case rel => exact ⟨k + 1, by omega, by go_num, hC, by first | rfl | trivial⟩
          case measure => first | (simp [intOf]; omega) | simp [intOf]
    · have q3 : ¬ (k : Int) < 3 := by omega
      have hC : Hid ((wh x1 && (wh x2 && wh x3)) = true) := by
        show _ = _
        rw [show wh x1 = true from hA.out 0 (by omega), show wh x2 = true from hA.out 1 (by omega), show wh x3 = true from hA.out 2 (by omega)]; rfl
      go_wp2
      go_ret
      exact ⟨ret_bool hC.out.symm, B1⟩
end Go.Proofs.YtciddfpkcdicaaaDoor
/- The contract of impl.writeParts. No statement is proved here. -/
namespace Go.Proofs.YtciddfpkcdicaaaDoor
open Go.ChangeShapes Go.WideShapes Go.ChangeAt Go.RowKit

theorem cellsApp (l : List UInt8) (s : ByteArray) : Lib.byteCells l ++ Lib.strCells s = Lib.byteCells (l ++ s.data.toList) := by
  unfold Lib.byteCells Lib.strCells
  rw [List.map_append]
theorem cellsLF (l : List UInt8) : Lib.byteCells l ++ [.int .u8 10] = Lib.byteCells (l ++ [10]) := by
  unfold Lib.byteCells
  rw [List.map_append]
  rfl
/-- A builder that holds the text l. -/
def BF (B b : Nat) (l : List UInt8) (w : World) : Prop := Lib.IsBuilderF 71 5 B b (Lib.byteCells l) w

set_option maxRecDepth 20000 in
set_option maxHeartbeats 2000000 in
theorem writeParts (B b : Nat) (l : List UInt8) (a : Option Addr) (c : Nat) (ss : List ByteArray) (w : World) (h : BF B b l w) (hs : SSB B w a ss) (hB : B ≤ w.heap.size) (hn : ss.length ≤ 1048576) (hl : (l.length : Int) + tot ss + ss.length ≤ 1000000000) :
    Calls Tryd.prog 34 #[.pointer (some ⟨b, 0, none⟩), .slice a ss.length c] w fun e w' => e = .returned (.tuple #[]) ∧ (BF B b (putP l ss) w' ∧ Below B w w') := by
  go_enter Tryd.func34, Tryd.ntmps34
  go_wp2
  go_loopw [8] (fun i wr => ∃ k : Nat, k ≤ ss.length ∧ i = .int .i64 k ∧ BF B b (putP l (ss.take k)) wr ∧ Below B w wr) (fun i _ => ss.length - (intOf i).toNat)
  case atStart => exact ⟨0, Nat.zero_le _, rfl, h, Below.refl _ _⟩
  case round =>
    obtain ⟨k, hk, rfl, hbf, hbel⟩ := hrel
    have hsz := hbel.size
    by_cases hlt : k < ss.length
    · have q : (k : Int) < (ss.length : Int) := by omega
      obtain ⟨b', off, rfl, hb, hc0⟩ := hs.2 k hlt
      have hc := (hbel.cell (p := ⟨b', off + k, none⟩) hb).trans hc0
      have hT := putP_take l ss k hlt
      have hle := putP_le l (ss.take k)
      have htt := tot_take_le ss (k + 1)
      have hts := tot_take ss k hlt
      have hlk : ((ss.take k).length : Int) ≤ ss.length := by rw [List.length_take]; omega
      obtain ⟨s, hse⟩ : ∃ s, ss.getD k ByteArray.empty = s := ⟨_, rfl⟩
      rw [hse] at hc hT hts
      obtain ⟨X, hX⟩ : ∃ X, putP l (ss.take k) = X := ⟨_, rfl⟩
      rw [hX] at hT hle hbf
      have hXl : X.length + s.size + 1 ≤ 1000000001 := by omega
      have hLen := fun W (p : BF B b X W) => bLen B b (Lib.byteCells X) W p
      rw [Lib.byteCells_length] at hLen
      clear hse hX hle htt hts hlk hc0
      by_cases h0 : X = []
      · subst h0
        have HT : Hid (putP l (ss.take (k + 1)) = [] ++ s.data.toList) := by show _ = _; rw [hT]; rfl
        clear hT
        have hLen0 : ∀ W, BF B b [] W → Calls Tryd.prog 53 #[.pointer (some ⟨b, 0, none⟩)] W fun e w' => e = .returned (.int .i64 0) ∧ w' = W := fun W p => hLen W p
        clear hLen
        go_wp2_with fail
        refine (hLen0 _ hbf).mono ?_; rintro e wr ⟨rfl, rfl⟩
        go_wp2_with fail
        refine (writeStringF B b _ s wr hbf (by rw [Lib.byteCells_length]; simp; omega) (by omega)).mono ?_; rintro e w2 ⟨rfl, h2, b2⟩
        rw [cellsApp, ← HT.out] at h2
        have B2 := hbel.trans b2
        clear hbf b2 hLen0
        go_wp2
        go_roundw
        case rel => exact ⟨k + 1, by omega, by go_num, .inr h2, B2⟩
        case measure => first | (simp [intOf]; omega) | simp [intOf]
      · have hpos : 0 < X.length := by cases X with | nil => exact absurd rfl h0 | cons => simp
        have hq : (0 : Int) < (X.length : Int) := by omega
        have hXs : (⟨X.toArray⟩ : ByteArray).size = X.length := by simp [ByteArray.size]
        have hHS := fun W => hasSuffix ⟨X.toArray⟩ W (by omega) (by omega)
        have hXd : (⟨X.toArray⟩ : ByteArray).data.toList = X := by simp
        rw [hXd] at hHS
        have hq2 : ((X.length : Int) > 0) := hq
        clear hXs hXd
        go_wp2_with fail
        refine (hLen _ hbf).mono ?_; rintro e wr ⟨rfl, rfl⟩
        obtain ⟨N, hN⟩ : ∃ N : Int, (X.length : Int) = N := ⟨_, rfl⟩
        rw [hN] at hq ⊢
        clear hN hq2 hLen
        go_wp2_with fail
        refine (bString B b X wr hbf (by omega)).mono ?_; rintro e w2 ⟨rfl, h2, b2⟩
        have B2 := hbel.trans b2
        have z2 := b2.size
        clear hbf b2 hbel
        cases he : endsL X with
        | true =>
          rw [he] at hHS
          have HT : Hid (putP l (ss.take (k + 1)) = X ++ s.data.toList) := by
            show _ = _
            rw [hT]; unfold closeL; rw [if_neg h0, if_pos he]
          clear hT he h0
          go_wp2_with fail
          refine (hHS _).mono ?_; rintro e w2 ⟨rfl, rfl⟩
          go_wp2_with fail
          refine (writeStringF B b _ s w2 h2 (by rw [Lib.byteCells_length]; omega) (by omega)).mono ?_; rintro e w3 ⟨rfl, h3, b3⟩
          rw [cellsApp, ← HT.out] at h3
          have B3 := B2.trans b3
          clear h2 b3 B2 hHS
          go_wp2
          go_roundw
          case rel => exact ⟨k + 1, by omega, by go_num, .inr h3, B3⟩
          case measure => first | (simp [intOf]; omega) | simp [intOf]
        | false =>
          rw [he] at hHS
          have HT : Hid (putP l (ss.take (k + 1)) = X ++ [10] ++ s.data.toList) := by
            show _ = _
            rw [hT]; unfold closeL; rw [if_neg h0, if_neg (by rw [he]; decide)]
          clear hT he h0
          go_wp2_with fail
          refine (hHS _).mono ?_; rintro e w2 ⟨rfl, rfl⟩
          go_wp2_with fail
          refine (writeByteF B b _ 10 w2 h2 (by rw [Lib.byteCells_length]; omega) (by omega)).mono ?_; rintro e w3 ⟨rfl, h3, b3⟩
          rw [cellsLF] at h3
          have B3 := B2.trans b3
          have z3 := b3.size
          clear h2 b3 B2 hHS
          go_wp2_with fail
          refine (writeStringF B b _ s w3 (.inr h3) (by rw [Lib.byteCells_length]; simp; omega) (by omega)).mono ?_; rintro e w4 ⟨rfl, h4, b4⟩
          rw [cellsApp, ← HT.out] at h4
          have B4 := B3.trans b4
          clear h3 b4 B3
          go_wp2
          go_roundw
          case rel => exact ⟨k + 1, by omega, by go_num, .inr h4, B4⟩
          case measure => first | (simp [intOf]; omega) | simp [intOf]
    · have q : ¬ (k : Int) < (ss.length : Int) := by omega
      have e : ss.take k = ss := List.take_of_length_le (by omega)
      rw [e] at hbf
      clear e
      go_wp2
      go_end0
      exact ⟨rfl, hbf, hbel⟩
end Go.Proofs.YtciddfpkcdicaaaDoor
