/- The contract of joined: texts behind one another, in memory of its own. No statement is proved here. -/
import Derived.Test.YtibdlfojoafloaaRows
import Derived.Test.YtibdlfojoafloaaLem
import Derived.Test.YtibdlfojoafloaaStrs
import Derived.Test.YtibdlfojoafloaaLFLem
import Derived.Test.YtibdlfojoafloaaDTab
import Derived.Test.YtibdlfojoafloaaJoinC
import Derived.WalkKit
import Derived.ProofKit
import Derived.Below
import Derived.WalkSpells
import Derived.Lib.BufferWrite
import Derived.Lib.SlBytesRow
import Derived.Laws.OwnMore
import Derived.Laws.CopyOwn
set_option linter.unusedVariables false
namespace Go.Proofs.Ytibdlfojoafloaa.Jd
open Go.RowKit
/-- A row of bytes that begins with these. -/
def BR (h n : Nat) (u : List UInt8) (wr : World) : Prop := ∃ cur : Array Value, wr.heap[h]? = some (.cells cur 5 (0, 0)) ∧ cur.size = n ∧ cur.toList.take u.length = Lib.byteCells u ∧ u.length ≤ n
theorem BR.copied {h n : Nat} {u : List UInt8} {wr : World} (cur : Array Value) (hh : wr.heap[h]? = some (.cells cur 5 (0, 0))) (hc : cur.size = n) (ht : cur.toList.take u.length = Lib.byteCells u) (hu : u.length ≤ n) (s : ByteArray) (hs : u.length + s.size ≤ n) :
    BR h n (u ++ s.data.toList) (wr.setRow h (cur.toList.take u.length ++ Lib.byteCells s.data.toList ++ cur.toList.drop (u.length + s.size)).toArray) := by
  have e1 : s.data.toList.length = s.size := by simp
  have e2 : (Lib.byteCells s.data.toList).length = s.size := by rw [Lib.byteCells_length, e1]
  have e0 : cur.toList.length = n := by simpa using hc
  have e3 : (cur.toList.take u.length).length = u.length := by rw [List.length_take]; omega
  refine ⟨(cur.toList.take u.length ++ Lib.byteCells s.data.toList ++ cur.toList.drop (u.length + s.size)).toArray, ?_, ?_, ?_, by rw [List.length_append, e1]; exact hs⟩
  · simp [World.setRow, Array.getElem?_modify, hh]
  · simp only [List.size_toArray, List.length_append, e2, List.length_drop, e3, e0]
    omega
  · rw [List.length_append, e1, List.take_append_of_le_length (by rw [List.length_append, e2, e3]; exact Nat.le_refl _), List.take_of_length_le (by rw [List.length_append, e2, e3]; exact Nat.le_refl _), ht]
    simp [Lib.byteCells]
theorem BR.bytes {h n : Nat} {t : ByteArray} {wr : World} (hb : BR h n t.data.toList wr) : Lib.Bytes wr h 0 t := by
  obtain ⟨cur, hh, hc, ht, hu⟩ := hb
  intro i hi
  have e : t.data.toList[i]? = some t[i] := byte_at t i hi
  have hl : t.data.toList.length = t.size := by simp
  have k : cur.toList[i]? = some (.int .u8 (t[i].toNat : Int)) := by
    have := congrArg (fun l => l[i]?) ht
    simp only [List.getElem?_take] at this
    rw [if_pos (by omega)] at this
    rw [this]
    simp [Lib.byteCells, e]
  simp only [World.cell?, Nat.zero_add, hh]
  simpa using k
theorem catB_snoc (ss : List ByteArray) (k : Nat) (h : k < ss.length) : (catB (ss.take (k + 1))).data.toList = (catB (ss.take k)).data.toList ++ (ss.getD k ByteArray.empty).data.toList := by
  rw [catB_take ss k h, ByteArray.data_append, Array.toList_append]
theorem catB_len (ss : List ByteArray) : ((catB ss).data.toList.length : Int) = tot ss := by
  rw [← catB_size]; simp
theorem infoU8 : (Try.prog.info? 5).map (fun i => (i.zero, i.size, i.bytes)) = some (some (.int .u8 0), 1, 1) := by kernel_rfl
theorem undBytes : Try.prog.underlying 22 = some (.slice 5) := Try.underlying22
theorem infoSize : (Try.prog.info? 5).map (·.size) = some 1 := by kernel_rfl
set_option maxRecDepth 20000 in
set_option maxHeartbeats 2000000 in
theorem joinedC (a : Option Addr) (c : Nat) (ss : List ByteArray) (w : World) (hs : SS w a ss) (hn : ss.length ≤ 1048576) (htot : tot ss ≤ 16000000) :
    Calls Try.prog 37 #[.slice a ss.length c] w fun e w' => e = .returned (.string (catB ss)) ∧ Below w.heap.size w w' := by
  go_enter Try.func37, Try.ntmps37
  go_wp2
  go_loop [3, 5, 12] (fun z _ i => ∃ k : Nat, k ≤ ss.length ∧ i = .int .i64 k ∧ z = .int .i64 (tot (ss.take k))) (fun _ _ i => ss.length - (intOf i).toNat)
  case atStart => exact ⟨0, Nat.zero_le _, rfl, rfl⟩
  case round =>
    obtain ⟨k, hk, rfl, rfl⟩ := hrel
    by_cases hlt : k < ss.length
    · obtain ⟨b, off, rfl, hb, hc⟩ := hs.2 k hlt
      have hts := tot_take ss k hlt
      have ht2 := tot_take_le ss (k + 1)
      have ht3 := tot_nonneg (ss.take k)
      obtain ⟨s, hse⟩ : ∃ s, s = ss.getD k ByteArray.empty := ⟨_, rfl⟩
      rw [← hse] at hc hts
      obtain ⟨T, hT⟩ : ∃ T, tot (ss.take k) = T := ⟨_, rfl⟩
      rw [hT] at hts ht3 ⊢
      have HT : Hid (tot (ss.take (k + 1)) = T + s.size) := hts
      have hbd : T + s.size ≤ 16000000 := by omega
      clear hts hse ht2 hT
      go_wp2
      go_round
      case rel => exact ⟨k + 1, by omega, by go_num, by rw [HT.out]⟩
      case measure => simp [intOf]; omega
    · have e : ss.take k = ss := List.take_of_length_le (by omega)
      rw [e]
      have qk : ¬ (k : Int) < (ss.length : Int) := by omega
      obtain ⟨N, hN⟩ : ∃ N : Nat, (catB ss).size = N := ⟨_, rfl⟩
      have hN' : tot ss = (N : Int) := by rw [← catB_size, hN]
      rw [hN'] at htot ⊢
      obtain ⟨i5, hi5, hz5, hs5, hb5⟩ := info_parts infoU8
      obtain ⟨W1, hmk, o1, g1⟩ := run_makeSlice_full (P := Try.prog) (w := w) w.heap.size 22 5 i5 (.int .u8 0) 1 undBytes hi5 hz5 hs5 .i64 .i64 N (by omega) (by rw [hb5]; omega) (by unfold maxLen; omega) (Nat.le_refl _)
      have b1 : Below w.heap.size w W1 := (Below.refl w.heap.size w).grown g1 (Nat.le_refl _) (fun j h => by cases h)
      have B0 : BR w.heap.size N (catB (ss.take 0)).data.toList W1 := by
        rcases o1.2 with ⟨h, _⟩ | ⟨g, cap, cur, hv, hg, r⟩
        · cases h
        · obtain ⟨hh, h1, _, hc, _⟩ := r
          simp only [Value.slice.injEq, Option.some.injEq, Addr.mk.injEq, and_true] at hv
          obtain ⟨hg1, _, hcap⟩ := hv
          subst hg1
          exact ⟨cur, hh, by omega, rfl, Nat.zero_le _⟩
      clear o1 g1
      have htk : ∀ j, (catB (ss.take j)).data.toList.length ≤ N := fun j => by
        have h1 := catB_len (ss.take j)
        have h2 := tot_take_le ss j
        omega
      have HN : Hid ((catB ss).size = N) := hN
      go_wp2
      clear hmk hi5 hz5 hs5 hb5 hN hN' e hk hlt qk
      go_loopw [7, 9, 25] (fun z _ i wr => ∃ k : Nat, k ≤ ss.length ∧ i = .int .i64 k ∧ z = .int .i64 ((catB (ss.take k)).data.toList.length : Nat) ∧ BR w.heap.size N (catB (ss.take k)).data.toList wr ∧ Below w.heap.size w wr) (fun _ _ i _ => ss.length - (intOf i).toNat)
      case atStart => exact ⟨0, Nat.zero_le _, rfl, rfl, B0, b1⟩
      case round =>
        obtain ⟨k, hk, rfl, rfl, hB, hbel⟩ := hrel
        clear B0 b1
        by_cases hlt : k < ss.length
        · have qk : (k : Int) < (ss.length : Int) := by omega
          obtain ⟨b, off, rfl, hb, hc⟩ := (hs.below hbel).2 k hlt
          have hsn := catB_snoc ss k hlt
          have h2 := htk (k + 1)
          have h1 := htk k
          obtain ⟨s, hse⟩ : ∃ s, s = ss.getD k ByteArray.empty := ⟨_, rfl⟩
          rw [← hse] at hc hsn
          obtain ⟨u, hu⟩ : ∃ u, (catB (ss.take k)).data.toList = u := ⟨_, rfl⟩
          rw [hu] at hsn hB h1 ⊢
          have e1 : s.data.toList.length = s.size := by simp
          rw [hsn, List.length_append, e1] at h2
          have HU : Hid ((catB (ss.take (k + 1))).data.toList = u ++ s.data.toList) := hsn
          clear hse hu hsn
          by_cases h0 : s.size = 0
          · have hcp : ∀ (d : Option Addr) (n m : Nat) (W : World), (Builtin.copy_ #[22, 9] 3 #[.slice d n m, .string s]).run Try.prog W = .ok (.int .i64 0) W := fun d n m W => Lib.run_copy_empty_string W _ _ _ 5 d n m s undBytes (by rw [infoSize]; rfl) h0
            have q1 : ((u.length : Nat) : Int) ≤ (N : Int) := by omega
            have HU' : Hid ((catB (ss.take (k + 1))).data.toList = u) := by
              show _ = _
              have z : s.data.toList = [] := List.length_eq_zero_iff.1 (by rw [e1]; exact h0)
              rw [HU.out, z, List.append_nil]
            clear HU
            go_wp2
            refine ⟨⟨k + 1, by omega, by go_num, by rw [HU'.out], by rw [HU'.out]; exact hB, hbel⟩, ?_⟩
            first | (simp [intOf]; omega) | simp [intOf]
          · obtain ⟨cur, hh, hcs, ht, hun⟩ := hB
            have hcp : (Builtin.copy_ #[22, 9] 3 #[.slice (some ⟨w.heap.size, u.length, none⟩) (N - u.length) (N - u.length), .string s]).run Try.prog wr = .ok (.int .i64 (s.size : Nat)) (wr.setRow w.heap.size (cur.toList.take u.length ++ Lib.byteCells s.data.toList ++ cur.toList.drop (u.length + s.size)).toArray) := Lib.run_copy_row_string wr _ _ _ 5 w.heap.size u.length _ _ s cur _ undBytes infoSize hh (by omega) (by omega)
            have q1 : ((u.length : Nat) : Int) < (N : Int) := by omega
            have hne : ¬ N - u.length = 0 := by omega
            have HB := BR.copied cur hh hcs ht hun s (by omega)
            have HL := below_setRow hbel (Nat.le_refl _) (cur.toList.take u.length ++ Lib.byteCells s.data.toList ++ cur.toList.drop (u.length + s.size)).toArray
            have HLn : Hid (((catB (ss.take (k + 1))).data.toList.length : Int) = (u.length : Int) + (s.size : Int)) := by
              show _ = _
              rw [HU.out, List.length_append, e1]
              omega
            obtain ⟨C, hC⟩ : ∃ C, (cur.toList.take u.length ++ Lib.byteCells s.data.toList ++ cur.toList.drop (u.length + s.size)).toArray = C := ⟨_, rfl⟩
            rw [hC] at hcp HB HL
            clear hC hh ht
            go_wp2
            refine ⟨⟨k + 1, by omega, by go_num, ?_, by rw [HU.out]; exact HB, HL⟩, ?_⟩
            · first | exact congrArg (Value.int IntKind.i64) HLn.out.symm | (rw [HLn.out]; go_num)
            · first | (simp [intOf]; omega) | simp [intOf]
        · have e : ss.take k = ss := List.take_of_length_le (by omega)
          have qk : ¬ (k : Int) < (ss.length : Int) := by omega
          rw [e] at hB ⊢
          have hcv := Lib.run_convert_whole (P := Try.prog) wr 22 5 9 undBytes Try.underlying5 Try.underlying9 w.heap.size 0 (catB ss) hB.bytes N
          rw [HN.out] at hcv
          obtain ⟨X, hX⟩ : ∃ X, catB ss = X := ⟨_, rfl⟩
          have HX : Hid (X = catB ss) := hX.symm
          rw [hX] at hcv ⊢
          clear hX e hB
          go_wp2
          go_ret
          exact ⟨by rw [← HX.out]; rfl, hbel⟩
end Go.Proofs.Ytibdlfojoafloaa.Jd
