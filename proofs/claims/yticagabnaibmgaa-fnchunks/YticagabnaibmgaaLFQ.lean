/- The contracts of LinesFault (the program's and the specification's) and of what they call. No statement is proved here. -/
import Derived.Test.YticagabnaibmgaaRows
import Derived.Test.YticagabnaibmgaaLemQ
import Derived.Test.YticagabnaibmgaaLFLemQ
import Derived.WalkKit
import Derived.ProofKit
import Derived.Below
import Derived.WalkSpells
namespace Go.Proofs.Yticagabnaibmgaa
open Go.ChangeShapes Go.WideShapes Go.ChangeAt Go.RowKit

theorem ten_snoc (l : List UInt8) (c : UInt8) (h : ¬ (10 : UInt8) ∈ l) (hc : ¬ (c.toNat : Int) = 10) : ¬ (10 : UInt8) ∈ l ++ [c] := by
  have : ¬ c = 10 := by intro h; apply hc; rw [h]; rfl
  simp only [List.mem_append, List.mem_singleton, not_or]
  exact ⟨h, fun e => this e.symm⟩

set_option maxHeartbeats 400000 in
theorem l1Ended (s : ByteArray) (w : World) (hs : s.size ≤ 9223372036854775807) :
    Calls Try.prog 72 #[.string s] w fun e w' => e = .returned (.int .i64 (ended s.data.toList)) ∧ w' = w := by
  go_enter Try.func72, Try.ntmps72
  go_wp2
  go_loop [3] (fun i => ∃ k : Nat, k ≤ s.size ∧ i = .int .i64 k ∧ Hid (¬ (10 : UInt8) ∈ s.data.toList.take k)) (fun i => s.size - (intOf i).toNat)
  case atStart => exact ⟨0, Nat.zero_le _, rfl, by simp [Hid]⟩
  case round =>
    obtain ⟨k, hk, rfl, hn⟩ := hrel
    by_cases hlt : k < s.size
    · by_cases hz : ((s[k].toNat : Int) == 10) = true
      · have hm : Hid (ended s.data.toList = k) := by
          have h10 : s[k] = 10 := by
            apply UInt8.toNat_inj.1
            have := of_decide_eq_true hz
            have h2 : (10 : UInt8).toNat = 10 := rfl
            omega
          have hl : k < s.data.toList.length := by simpa using hlt
          have hsp : s.data.toList = s.data.toList.take k ++ (10 : UInt8) :: s.data.toList.drop (k + 1) := by
            conv => lhs; rw [← List.take_append_drop k s.data.toList, List.drop_eq_getElem_cons hl]
            congr 2
          show ended s.data.toList = k
          have hidx : Lib.indexByte s.data.toList 10 = k := by
            rw [hsp, indexByte_app _ _ _ hn.out]; simp; omega
          unfold ended
          rw [hidx, if_neg (by omega)]
        go_wp2
        go_ret
        exact ⟨ret_int hm.out.symm, rfl⟩
      · have hz' : ((s[k].toNat : Int) == 10) = false := by simpa using hz
        have hn' : Hid (¬ (10 : UInt8) ∈ s.data.toList.take (k + 1)) := by
          show ¬ _
          rw [take_snoc s k hlt]
          exact ten_snoc _ _ hn.out (by simpa using hz)
        clear hz hn
        go_wp2
        go_round
        case rel => exact ⟨k + 1, by omega, by go_num, hn'⟩
        case measure => simp [intOf]; omega
    · have hn2 : Hid (ended s.data.toList = s.size) := by
        have := hn.out
        rw [List.take_of_length_le (by simp; omega)] at this
        show ended s.data.toList = s.size
        unfold ended
        rw [indexByte_none _ _ this]; simp
      go_wp2
      go_ret
      exact ⟨ret_int hn2.out.symm, rfl⟩

theorem empty_iff (s : ByteArray) : s.toList.isEmpty = decide (s.data.toList = []) := by
  rw [ByteArray.toList_eq]
  cases s.data.toList <;> simp

set_option maxHeartbeats 400000 in
theorem isLine (s : ByteArray) (last : Bool) (w : World) (hs : s.size ≤ 9223372036854775807) :
    Calls Try.prog 65 #[.string s, .bool last] w fun e w' => e = .returned (.bool (okLine s.data.toList last)) ∧ w' = w := by
  have he := empty_iff s
  by_cases h0 : s.data.toList = []
  · have h1 : s.toList.isEmpty = true := by rw [he]; exact decide_eq_true h0
    have H : Hid (okLine s.data.toList last = false) := by show okLine _ _ = false; unfold okLine; rw [if_pos h0]
    clear he h0
    go_enter Try.func65, Try.ntmps65
    go_wp2
    go_ret
    exact ⟨ret_bool H.out.symm, rfl⟩
  · have h1 : s.toList.isEmpty = false := by rw [he]; exact decide_eq_false h0
    have hI := fun w => indexByte s 10 w
    obtain ⟨i, hi⟩ : ∃ i, i = Lib.indexByte s.data.toList 10 := ⟨_, rfl⟩
    have hge := Lib.indexByte_ge s.data.toList 10
    have e10 : (10 : Int).toNat.toUInt8 = 10 := rfl
    rw [e10, ← hi] at hI
    rw [← hi] at hge
    have hsz : s.data.toList.length = s.size := by simp
    by_cases hneg : i < 0
    · have H : Hid (okLine s.data.toList last = last) := by show okLine _ _ = _; unfold okLine; rw [if_neg h0, ← hi, if_pos hneg]
      clear he h0 hi e10 hsz
      go_enter Try.func65, Try.ntmps65
      go_wp2_with (go_at_call 95; refine (hI _).mono ?_; rintro e w' ⟨rfl, rfl⟩)
      go_ret
      exact ⟨ret_bool H.out.symm, rfl⟩
    · have H : Hid (okLine s.data.toList last = decide (i = (s.size : Int) - 1)) := by show okLine _ _ = _; unfold okLine; rw [if_neg h0, ← hi, if_neg hneg, hsz]
      have hpos : 0 < s.size := by
        rw [← hsz]
        cases h : s.data.toList with
        | nil => exact absurd h h0
        | cons => simp
      clear he h0 hi e10 hsz
      go_enter Try.func65, Try.ntmps65
      go_wp2_with (go_at_call 95; refine (hI _).mono ?_; rintro e w' ⟨rfl, rfl⟩)
      go_ret
      exact ⟨ret_bool (by rw [H.out]; rfl), rfl⟩

def manyB (ss : List ByteArray) : Bool := decide (100 < (ss.length : Int) ∨ 2000 < tot ss)

set_option maxHeartbeats 800000 in
theorem exceedsText (a : Option Addr) (cap : Nat) (ss : List ByteArray) (w : World) (hs : SS w a ss) (hn : ss.length ≤ 1048576) :
    Calls Try.prog 64 #[.slice a ss.length cap] w fun e w' => e = .returned (.bool (manyB ss)) ∧ w' = w := by
  by_cases hbig : (100 : Int) < (ss.length : Int)
  · have hM : Hid (manyB ss = true) := decide_eq_true (Or.inl hbig)
    go_enter Try.func64, Try.ntmps64
    go_wp2
    go_ret
    exact ⟨ret_bool hM.out.symm, rfl⟩
  · go_enter Try.func64, Try.ntmps64
    go_wp2
    go_loop [3, 11] (fun t i => ∃ k : Nat, k ≤ ss.length ∧ i = .int .i64 k ∧ t = .int .i64 (2000 - tot (ss.take k)) ∧ 0 ≤ 2000 - tot (ss.take k)) (fun _ i => ss.length - (intOf i).toNat)
    case atStart => exact ⟨0, Nat.zero_le _, rfl, by simp [tot], by simp [tot]⟩
    case round =>
      obtain ⟨k, hk, rfl, rfl, hpos⟩ := hrel
      have ht0 := tot_nonneg (ss.take k)
      by_cases hlt : k < ss.length
      · obtain ⟨b, off, rfl, hb, hc⟩ := hs.2 k hlt
        have hsz := hs.1 k hlt
        have hts := tot_take ss k hlt
        obtain ⟨s, hse⟩ : ∃ s, s = ss.getD k ByteArray.empty := ⟨_, rfl⟩
        rw [← hse] at hc hsz hts
        have HT : Hid (tot (ss.take (k + 1)) = tot (ss.take k) + (s.size : Int)) := hts
        clear hts hse
        by_cases hneg2 : 2000 - tot (ss.take k) < (s.size : Int)
        · have hM : Hid (manyB ss = true) := by
            have h1 := tot_take_le ss (k + 1)
            have h2 := HT.out
            exact decide_eq_true (Or.inr (by omega))
          go_wp2
          go_ret
          exact ⟨ret_bool hM.out.symm, rfl⟩
        · go_wp2
          go_round
          case rel => exact ⟨k + 1, by omega, by go_num, by rw [HT.out]; go_num, by rw [HT.out]; omega⟩
          case measure => simp [intOf]; omega
      · have hM : Hid (manyB ss = false) := by
          rw [List.take_of_length_le (by omega)] at hpos
          exact decide_eq_false (by omega)
        go_wp2
        go_ret
        exact ⟨ret_bool hM.out.symm, rfl⟩

theorem okAt_eq (ss : List ByteArray) (k : Nat) (s : ByteArray) (b : Bool) (hs : s = ss.getD k ByteArray.empty) (hb : ((k : Int) == (ss.length : Int) - 1) = b) : okAt ss k = okLine s.data.toList b := by
  unfold okAt
  rw [← hs, ← hb]
  rfl

set_option maxHeartbeats 800000 in
theorem implLinesFault (a : Option Addr) (cap : Nat) (ss : List ByteArray) (w : World) (hs : SS w a ss) (hn : ss.length ≤ 1048576) :
    Calls Try.prog 29 #[.slice a ss.length cap] w fun e w' => e = .returned (.int .i64 (lf ss)) ∧ w' = w := by
  have hX := fun w hs => exceedsText a cap ss w hs hn
  by_cases hmany : 100 < (ss.length : Int) ∨ 2000 < tot ss
  · have e : manyB ss = true := decide_eq_true hmany
    have hL : Hid (lf ss = 2) := lf_many hmany
    rw [e] at hX
    clear hmany e
    go_enter Try.func29, Try.ntmps29
    go_wp2_with (go_at_call 64; refine (hX _ hs).mono ?_; rintro e w' ⟨rfl, rfl⟩)
    go_ret
    exact ⟨ret_int hL.out.symm, rfl⟩
  · have e : manyB ss = false := decide_eq_false hmany
    rw [e] at hX
    have hM : Hid (¬ (100 < (ss.length : Int) ∨ 2000 < tot ss)) := hmany
    clear hmany e
    go_enter Try.func29, Try.ntmps29
    go_wp2_with fail
    refine (hX _ hs).mono ?_; rintro e w ⟨rfl, rfl⟩
    clear hX
    go_wp2
    go_loop [10] (fun i => ∃ k : Nat, k ≤ ss.length ∧ i = .int .i64 k ∧ Hid (allOk ss k = true)) (fun i => ss.length - (intOf i).toNat)
    case atStart => exact ⟨0, Nat.zero_le _, rfl, allOk_zero ss⟩
    case round =>
      obtain ⟨k, hk, rfl, hok⟩ := hrel
      by_cases hlt : k < ss.length
      · obtain ⟨b, off, rfl, hb, hc⟩ := hs.2 k hlt
        have hsz := hs.1 k hlt
        obtain ⟨s, hse⟩ : ∃ s, s = ss.getD k ByteArray.empty := ⟨_, rfl⟩
        obtain ⟨q, hq⟩ : ∃ q, ((k : Int) == (ss.length : Int) - 1) = q := ⟨_, rfl⟩
        have HO : Hid (okAt ss k = okLine s.data.toList q) := okAt_eq ss k s q hse hq
        rw [← hse] at hc hsz
        have hI := fun w => isLine s q w hsz
        clear hse
        obtain ⟨r, hr⟩ : ∃ r, okLine s.data.toList q = r := ⟨_, rfl⟩
        rw [hr] at hI
        have HO2 : Hid (okAt ss k = r) := HO.out.trans hr
        clear hr HO
        cases r with
        | true =>
          have hok' : Hid (allOk ss (k + 1) = true) := allOk_succ hok.out HO2.out
          clear HO2 hok
          go_wp2_with (go_at_call 65; refine (hI _).mono ?_; rintro e w' ⟨rfl, rfl⟩)
          go_round
          case rel => exact ⟨k + 1, by omega, by go_num, hok'⟩
          case measure => simp [intOf]; omega
        | false =>
          have hL : Hid (lf ss = 1) := lf_form hM.out hlt HO2.out
          clear HO2 hok
          go_wp2_with (go_at_call 65; refine (hI _).mono ?_; rintro e w' ⟨rfl, rfl⟩)
          go_ret
          exact ⟨ret_int hL.out.symm, rfl⟩
      · have e : k = ss.length := by omega
        have hL : Hid (lf ss = 0) := lf_ok hM.out (by rw [← e]; exact hok.out)
        clear e
        go_wp2
        go_ret
        exact ⟨ret_int hL.out.symm, rfl⟩

set_option maxHeartbeats 1600000 in
theorem specLinesFault (a : Option Addr) (cap : Nat) (ss : List ByteArray) (w : World) (hs : SS w a ss) (hn : ss.length ≤ 1048576) (htot : tot ss ≤ 1048576) :
    Calls Try.prog 32 #[.slice a ss.length cap] w fun e w' => e = .returned (.int .i64 (lf ss)) ∧ w' = w := by
  go_enter Try.func32, Try.ntmps32
  go_wp2
  go_loop [3, 4] (fun t i => ∃ k : Nat, k ≤ ss.length ∧ i = .int .i64 k ∧ t = .int .i64 (tot (ss.take k))) (fun _ i => ss.length - (intOf i).toNat)
  case atStart => exact ⟨0, Nat.zero_le _, rfl, by simp [tot]⟩
  case round =>
    obtain ⟨k, hk, rfl, rfl⟩ := hrel
    have ht0 := tot_nonneg (ss.take k)
    have ht1 := tot_take_le ss k
    by_cases hlt : k < ss.length
    · obtain ⟨b, off, rfl, hb, hc⟩ := hs.2 k hlt
      have hsz := hs.1 k hlt
      have hts := tot_take ss k hlt
      have ht2 := tot_take_le ss (k + 1)
      obtain ⟨s, hse⟩ : ∃ s, s = ss.getD k ByteArray.empty := ⟨_, rfl⟩
      rw [← hse] at hc hsz hts
      have hbd : tot (ss.take k) + (s.size : Int) ≤ 1048576 := by omega
      have HT : Hid (tot (ss.take (k + 1)) = tot (ss.take k) + (s.size : Int)) := hts
      clear hts hse ht2
      go_wp2
      go_round
      case rel => exact ⟨k + 1, by omega, by go_num, by rw [HT.out]⟩
      case measure => simp [intOf]; omega
    · have e : ss.take k = ss := List.take_of_length_le (by omega)
      rw [e]
      rw [e] at ht0
      clear e ht1
      by_cases hmany : 100 < (ss.length : Int) ∨ 2000 < tot ss
      · have hL : Hid (lf ss = 2) := lf_many hmany
        have HM : Hid (100 < (ss.length : Int) ∨ 2000 < tot ss) := hmany
        clear hmany
        by_cases h1 : 100 < (ss.length : Int)
        · go_wp2
          go_ret
          exact ⟨ret_int hL.out.symm, rfl⟩
        · have h2 : 2000 < tot ss := by have := HM.out; omega
          go_wp2
          go_ret
          exact ⟨ret_int hL.out.symm, rfl⟩
      · have hM : Hid (¬ (100 < (ss.length : Int) ∨ 2000 < tot ss)) := hmany
        have h1 : ¬ 100 < (ss.length : Int) := by omega
        have h2 : ¬ 2000 < tot ss := by omega
        clear hmany
        go_wp2
        go_loop [5] (fun i => ∃ j : Nat, j ≤ ss.length ∧ i = .int .i64 j ∧ Hid (allOk ss j = true)) (fun i => ss.length - (intOf i).toNat)
        case atStart => exact ⟨0, Nat.zero_le _, rfl, allOk_zero ss⟩
        case round =>
          obtain ⟨j, hj, rfl, hok⟩ := hrel
          clear hlt hk
          by_cases hlt : j < ss.length
          · obtain ⟨b, off, rfl, hb, hc⟩ := hs.2 j hlt
            have hsz := hs.1 j hlt
            obtain ⟨s, hse⟩ : ∃ s, s = ss.getD j ByteArray.empty := ⟨_, rfl⟩
            rw [← hse] at hc hsz
            have hE := fun w => l1Ended s w hsz
            have hbd := ended_bd s.data.toList
            have hl : s.data.toList.length = s.size := by simp
            have hsp := okLine_spec s.data.toList j ss.length (by omega)
            rw [← empty_iff, hl] at hsp
            have HO : Hid (okAt ss j = okLine s.data.toList (decide ((j : Int) = (ss.length : Int) - 1))) := by show okAt ss j = _; unfold okAt; rw [← hse]
            obtain ⟨en, hen⟩ : ∃ en, ended s.data.toList = en := ⟨_, rfl⟩
            rw [hen] at hE hsp hbd
            rw [hl] at hbd
            obtain ⟨hb0, hb1⟩ := hbd
            have HO2 := HO.out.trans hsp
            clear hse hl hen HO hsp
            cases hemp : s.toList.isEmpty with
            | true =>
              have hL : Hid (lf ss = 1) := lf_form hM.out hlt (by rw [HO2, hemp]; rfl)
              clear HO2 hok hs
              go_wp2_with (go_at_call 72; refine (hE _).mono ?_; rintro e w' ⟨rfl, rfl⟩)
              go_ret
              exact ⟨ret_int hL.out.symm, rfl⟩
            | false =>
              by_cases c1 : en < (s.size : Int) - 1
              · have hL : Hid (lf ss = 1) := lf_form hM.out hlt (by rw [HO2, hemp, decide_eq_true c1]; rfl)
                clear HO2 hok hs
                go_wp2_with (go_at_call 72; refine (hE _).mono ?_; rintro e w' ⟨rfl, rfl⟩)
                go_ret
                exact ⟨ret_int hL.out.symm, rfl⟩
              · by_cases c2 : (en == (s.size : Int)) = true
                · have c2' : en = (s.size : Int) := by simpa using c2
                  by_cases c3 : (j : Int) < (ss.length : Int) - 1
                  · have hL : Hid (lf ss = 1) := lf_form hM.out hlt (by rw [HO2, hemp, decide_eq_false c1, decide_eq_true c2', decide_eq_true c3]; rfl)
                    clear HO2 hok hs c2'
                    go_wp2_with (go_at_call 72; refine (hE _).mono ?_; rintro e w' ⟨rfl, rfl⟩)
                    go_ret
                    exact ⟨ret_int hL.out.symm, rfl⟩
                  · have hok' : Hid (allOk ss (j + 1) = true) := allOk_succ hok.out (by rw [HO2, hemp, decide_eq_false c1, decide_eq_true c2', decide_eq_false c3]; rfl)
                    clear HO2 hok hs c2'
                    go_wp2_with (go_at_call 72; refine (hE _).mono ?_; rintro e w' ⟨rfl, rfl⟩)
                    go_round
                    case rel => exact ⟨j + 1, by omega, by go_num, hok'⟩
                    case measure => simp [intOf]; omega
                · have c2' : ¬ en = (s.size : Int) := by simpa using c2
                  have c2f : (en == (s.size : Int)) = false := by simpa using c2
                  have hok' : Hid (allOk ss (j + 1) = true) := allOk_succ hok.out (by rw [HO2, hemp, decide_eq_false c1, decide_eq_false c2']; rfl)
                  clear HO2 hok hs c2' c2
                  go_wp2_with (go_at_call 72; refine (hE _).mono ?_; rintro e w' ⟨rfl, rfl⟩)
                  go_round
                  case rel => exact ⟨j + 1, by omega, by go_num, hok'⟩
                  case measure => simp [intOf]; omega
          · have e : j = ss.length := by omega
            have hL : Hid (lf ss = 0) := lf_ok hM.out (by rw [← e]; exact hok.out)
            clear e
            go_wp2
            go_ret
            exact ⟨ret_int hL.out.symm, rfl⟩
end Go.Proofs.Yticagabnaibmgaa
