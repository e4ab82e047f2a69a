/- The contracts of spec.l3Digits, l3Head: decimal numbers and a hunk's first line. No statement is proved here. -/
import Derived.Test.YtgincoiehbdphaaGreatDoorDTabQ
import Derived.Test.YtgincoiehbdphaaGreatDoorBldQ
import Derived.Lib.ItoaNum
import Derived.Deep.RegionLaw
import Derived.Laws.Concat
import Derived.Laws.IdiomStrings
import Derived.Lib.BufferWrite
import Derived.Lib.SlBytesRow
import Derived.Laws.OwnMore
import Derived.Laws.CopyOwn
namespace Go.Proofs.YtgincoiehbdphaaGreatDoor
open Go.ChangeShapes Go.WideShapes Go.ChangeAt Go.RowKit
def decB (n : Nat) : ByteArray := ⟨(Lib.decDigits n).toArray⟩
theorem decB_one {n : Nat} (h : n < 10) : decB n = ⟨#[UInt8.ofNat (48 + n)]⟩ := by
 unfold decB; rw [Lib.decDigits, dif_pos h]
theorem decB_more {n : Nat} (h : ¬ n < 10) : decB n = decB (n / 10) ++ ⟨#[UInt8.ofNat (48 + n % 10)]⟩ := by
 unfold decB
 rw [Lib.decDigits, dif_neg h]
 apply bytes_inj2
 simp [ByteArray.toList_eq]
theorem decB_size : ∀ f n : Nat, n <= f -> (decB n).size <= n + 1 := by
 intro f
 induction f with
 | zero =>
  intro n hn
  rw [decB_one (by omega)]
  have : (⟨#[UInt8.ofNat (48 + n)]⟩ : ByteArray).size = 1 := rfl
  omega
 | succ f ih =>
  intro n hn
  by_cases h : n < 10
  ·rw [decB_one h]
   have : (⟨#[UInt8.ofNat (48 + n)]⟩ : ByteArray).size = 1 := rfl
   omega
  ·rw [decB_more h, ByteArray.size_append]
   have h1 := ih (n / 10) (by omega)
   have : (⟨#[UInt8.ofNat (48 + n % 10)]⟩ : ByteArray).size = 1 := rfl
   omega
theorem conv1 (m : Nat) (hm : m < 10) (W : World) (b c : Nat) (hc : W.cell? ⟨b, 0, none⟩ = some (.int .u8 (48 + (m : Int)))) :
  (convert 148 9 (.slice (some ⟨b, 0, none⟩) 1 c)).run Tryz.prog W = .ok (.string ⟨#[UInt8.ofNat (48 + m)]⟩) W :=
 run_convert_bytes_back W 148 9 5 ⟨b, 0, none⟩ c [UInt8.ofNat (48 + m)] Tryz.underlying148 Tryz.underlying5 Tryz.underlying9 (fun j hj => by
  have e : j = 0 := by simpa using hj
  subst e
  have h2 : ((UInt8.ofNat (48 + m)).toNat : Int) = 48 + (m : Int) := by
   rw [UInt8.toNat_ofNat']; omega
  simp only [List.getElem_cons_zero, h2, add_plain]
  exact hc)
theorem newAt {w w1 : World} {v : Value} {t : TypeId} (b : Below ((w.alloc (.cells #[v] t)).drew).heap.size ((w.alloc (.cells #[v] t)).drew) w1) : w1.cell? ⟨w.heap.size, 0, none⟩ = some v := by
 have h : ((w.alloc (.cells #[v] t)).drew).cell? ⟨w.heap.size, 0, none⟩ = some v := by
  show (w.alloc (.cells #[v] t)).cell? ⟨w.heap.size, 0, none⟩ = some v
  simp
 exact (b.cell (p := ⟨w.heap.size, 0, none⟩) (by show w.heap.size < (w.alloc (.cells #[v] t)).heap.size; simp)).trans h
theorem belowNew {w w1 : World} {v : Value} {t : TypeId} (b : Below ((w.alloc (.cells #[v] t)).drew).heap.size ((w.alloc (.cells #[v] t)).drew) w1) : Below w.heap.size w w1 :=
 (below_drew (allocBelow w _)).trans (b.mono (by show w.heap.size <= (w.alloc (.cells #[v] t)).heap.size; simp))
set_option maxRecDepth 20000 in
set_option maxHeartbeats 1000000 in
theorem l3DigitsL : ∀ (f n : Nat), n <= f -> n <= 10000000000 -> ∀ w : World, Calls Tryz.prog 210 #[.int .i64 (n : Int)] w fun e w' => e = .returned (.string (decB n)) /\ Below w.heap.size w w' := by
 have base : ∀ n : Nat, n < 10 -> ∀ w : World, Calls Tryz.prog 210 #[.int .i64 (n : Int)] w fun e w' => e = .returned (.string (decB n)) /\ Below w.heap.size w w' := by
  intro n h10 w
  have q : (n : Int) < 10 := by omega
  have hcv := conv1 n h10
  rw [decB_one h10]
  obtain ⟨D, hD⟩ : ∃ D : ByteArray, (⟨#[UInt8.ofNat (48 + n)]⟩ : ByteArray) = D := ⟨_, rfl⟩
  rw [hD] at hcv ⊢
  clear hD
  go_enter Tryz.func210, Tryz.ntmps210
  go_wp2
  go_ret
  exact ⟨rfl, allocBelow _ _⟩
 intro f
 induction f with
 | zero => intro n hn _ w; exact base n (by omega) w
 | succ f ih =>
  intro n hn hb w
  by_cases h10 : n < 10
  ·exact base n h10 w
  ·have q : ¬ (n : Int) < 10 := by omega
   have hq : (n : Int) / 10 = ((n / 10 : Nat) : Int) := by omega
   have hr : (n : Int) % 10 = ((n % 10 : Nat) : Int) := by omega
   have hcv := conv1 (n % 10) (by omega)
   have hI := ih (n / 10) (by omega) (by omega)
   rw [decB_more h10]
   obtain ⟨m, hm⟩ : ∃ m, n % 10 = m := ⟨_, rfl⟩
   obtain ⟨k, hk⟩ : ∃ k, n / 10 = k := ⟨_, rfl⟩
   rw [hm] at hr hcv ⊢
   rw [hk] at hq hI ⊢
   have hm10 : m < 10 := by omega
   have hq2 : (n : Int).tdiv 10 = (k : Int) := by rw [Int.tdiv_eq_ediv_of_nonneg (by omega)]; exact hq
   have hr2 : (n : Int).tmod 10 = (m : Int) := by rw [Int.tmod_eq_emod_of_nonneg (by omega)]; exact hr
   obtain ⟨D, hD⟩ : ∃ D : ByteArray, (⟨#[UInt8.ofNat (48 + m)]⟩ : ByteArray) = D := ⟨_, rfl⟩
   rw [hD] at hcv ⊢
   have hDs : D.size = 1 := by rw [<- hD]; rfl
   obtain ⟨E, hE⟩ : ∃ E, decB k = E := ⟨_, rfl⟩
   have hEs := decB_size k k (Nat.le_refl _)
   rw [hE] at hI hEs ⊢
   have hcs : ¬ 9223372036854775807 < E.size + D.size := by omega
   have hcs2 : ¬ 9223372036854775807 < E.size + 1 := by omega
   have hk1 : k <= n := by omega
   have hw1 : IntKind.i64.wrap (k : Int) = (k : Int) := by rw [IntKind.wrap_i64]; omega
   have hw2 : IntKind.i64.wrap (m : Int) = (m : Int) := by rw [IntKind.wrap_i64]; omega
   have hw3 : IntKind.i64.wrap (48 + (m : Int)) = 48 + (m : Int) := by rw [IntKind.wrap_i64]; omega
   have hw4 : IntKind.u8.wrap (48 + (m : Int)) = 48 + (m : Int) := by rw [IntKind.wrap_u8]; omega
   clear hm hk hD hE
   go_enter Tryz.func210, Tryz.ntmps210
   go_wp2
   go_region_with (go_at_call 210; refine (hI _).mono ?_; rintro e w1 ⟨rfl, b1⟩; try have hcl := newAt b1)
   all_goals (go_wp2_with fail)
   all_goals go_ret
   all_goals first | exact ⟨rfl, belowNew b1⟩ | exact ⟨rfl, (below_drew (Below.refl _ w)).trans ((b1.alloc b1.size _).mono (Nat.le_refl _))⟩
theorem l3Digits (f n : Nat) (h : n <= f) (hb : n <= 1000000000) (w : World) : Calls Tryz.prog 210 #[.int .i64 (n : Int)] w fun e w' => e = .returned (.string (decB n)) /\ Below w.heap.size w w' := l3DigitsL f n h (by omega) w
end Go.Proofs.YtgincoiehbdphaaGreatDoor
namespace Go.Proofs.YtgincoiehbdphaaGreatDoor
open Go.ChangeShapes Go.WideShapes Go.ChangeAt Go.RowKit
def catL (ss : List ByteArray) : List UInt8 := ss.flatMap fun s => s.data.toList
def catB (ss : List ByteArray) : ByteArray := ⟨(catL ss).toArray⟩
theorem catL_take (ss : List ByteArray) (k : Nat) (h : k < ss.length) : catL (ss.take (k + 1)) = catL (ss.take k) ++ (ss.getD k ByteArray.empty).data.toList := by
 unfold catL
 rw [List.take_succ_eq_append_getElem h, List.flatMap_append, getD_at ss k h]
 simp
theorem catL_length (ss : List ByteArray) : ((catL ss).length : Int) = tot ss := by
 unfold catL tot
 induction ss with
 | nil => simp
 | cons s ss ih => simp only [List.flatMap_cons, List.length_append, List.map_cons, List.sum_cons, <- ih]; simp
theorem catB_size (ss : List ByteArray) : ((catB ss).size : Int) = tot ss := by
 rw [<- catL_length]; rfl
theorem bytes_ext {a b : ByteArray} (h : a.data.toList = b.data.toList) : a = b := WideShapes.bytes_inj h
theorem catB_take (ss : List ByteArray) (k : Nat) (h : k < ss.length) : catB (ss.take (k + 1)) = catB (ss.take k) ++ ss.getD k ByteArray.empty := by
 apply bytes_ext
 rw [show (catB (ss.take (k + 1))).data.toList = catL (ss.take (k + 1)) from rfl, catL_take ss k h, ByteArray.data_append, Array.toList_append]
 rfl
set_option maxHeartbeats 800000 in
theorem l1Join (a : Option Addr) (cap : Nat) (ss : List ByteArray) (w : World) (hs : SS w a ss) (hn : ss.length <= 1048576) (htot : tot ss <= 1048576) :
  Calls Tryz.prog 177 #[.slice a ss.length cap] w fun e w' => e = .returned (.string (catB ss)) /\ w' = w := by
 go_enter Tryz.func177, Tryz.ntmps177
 go_wp2
 go_loop [3, 4] (fun t i => ∃ k : Nat, k <= ss.length /\ i = .int .i64 k /\ t = .string (catB (ss.take k))) (fun _ i => ss.length - (intOf i).toNat)
 case atStart => exact ⟨0, Nat.zero_le _, rfl, rfl⟩
 case round =>
  obtain ⟨k, hk, rfl, rfl⟩ := hrel
  by_cases hlt : k < ss.length
  ·obtain ⟨b, off, rfl, hb, hc⟩ := hs.2 k hlt
   have hts := tot_take ss k hlt
   have ht2 := tot_take_le ss (k + 1)
   have hcs := catB_size (ss.take k)
   obtain ⟨s, hse⟩ : ∃ s, s = ss.getD k ByteArray.empty := ⟨_, rfl⟩
   have hct := catB_take ss k hlt
   rw [<- hse] at hc hts hct
   have hbd : (catB (ss.take k)).size + s.size <= 1048576 := by omega
   have HC : Hid (catB (ss.take (k + 1)) = catB (ss.take k) ++ s) := hct
   clear hts hse ht2 hcs hct
   go_wp2
   go_round
   case rel => exact ⟨k + 1, by omega, by go_num, by rw [HC.out]⟩
   case measure => simp [intOf]; omega
  ·have e : ss.take k = ss := List.take_of_length_le (by omega)
   rw [e]
   clear e
   go_wp2
   go_ret
   exact ⟨rfl, rfl⟩
end Go.Proofs.YtgincoiehbdphaaGreatDoor
set_option linter.unusedVariables false
namespace Go.Proofs.YtgincoiehbdphaaGreatDoor.Jd
open Go.RowKit
def BR (h n : Nat) (u : List UInt8) (wr : World) : Prop := ∃ cur : Array Value, wr.heap[h]? = some (.cells cur 5 (0, 0)) /\ cur.size = n /\ cur.toList.take u.length = Lib.byteCells u /\ u.length <= n
theorem BR.copied {h n : Nat} {u : List UInt8} {wr : World} (cur : Array Value) (hh : wr.heap[h]? = some (.cells cur 5 (0, 0))) (hc : cur.size = n) (ht : cur.toList.take u.length = Lib.byteCells u) (hu : u.length <= n) (s : ByteArray) (hs : u.length + s.size <= n) :
  BR h n (u ++ s.data.toList) (wr.setRow h (cur.toList.take u.length ++ Lib.byteCells s.data.toList ++ cur.toList.drop (u.length + s.size)).toArray) := by
 have e1 : s.data.toList.length = s.size := by simp
 have e2 : (Lib.byteCells s.data.toList).length = s.size := by rw [Lib.byteCells_length, e1]
 have e0 : cur.toList.length = n := by simpa using hc
 have e3 : (cur.toList.take u.length).length = u.length := by rw [List.length_take]; omega
 refine ⟨(cur.toList.take u.length ++ Lib.byteCells s.data.toList ++ cur.toList.drop (u.length + s.size)).toArray, ?_, ?_, ?_, by rw [List.length_append, e1]; exact hs⟩
 ·simp [World.setRow, Array.getElem?_modify, hh]
 ·simp only [List.size_toArray, List.length_append, e2, List.length_drop, e3, e0]
  omega
 ·rw [List.length_append, e1, List.take_append_of_le_length (by rw [List.length_append, e2, e3]; exact Nat.le_refl _), List.take_of_length_le (by rw [List.length_append, e2, e3]; exact Nat.le_refl _), ht]
  simp [Lib.byteCells]
theorem BR.bytes {h n : Nat} {t : ByteArray} {wr : World} (hb : BR h n t.data.toList wr) : Lib.Bytes wr h 0 t := by
 obtain ⟨cur, hh, hc, ht, hu⟩ := hb
 intro i hi
 have e : t.data.toList[i]? = some t[i] := byte_at t i hi
 have hl : t.data.toList.length = t.size := by simp
 have k : cur.toList[i]? = some (.int .u8 (t[i].toNat : Int)) := by
  have := congrArg (fun l => l[i]?) ht
  simp only [List.getElem?_take] at this
  rw [if_pos (by omega)] at this
  rw [this]
  simp [Lib.byteCells, e]
 simp only [World.cell?, Nat.zero_add, hh]
 simpa using k
theorem catB_snoc (ss : List ByteArray) (k : Nat) (h : k < ss.length) : (catB (ss.take (k + 1))).data.toList = (catB (ss.take k)).data.toList ++ (ss.getD k ByteArray.empty).data.toList := by
 rw [catB_take ss k h, ByteArray.data_append, Array.toList_append]
theorem catB_len (ss : List ByteArray) : ((catB ss).data.toList.length : Int) = tot ss := by
 rw [<- catB_size]; simp
theorem infoU8 : (Tryz.prog.info? 5).map (fun i => (i.zero, i.size, i.bytes)) = some (some (.int .u8 0), 1, 1) := by kernel_rfl
theorem undBytes : Tryz.prog.underlying 148 = some (.slice 5) := Tryz.underlying148
theorem infoSize : (Tryz.prog.info? 5).map (·.size) = some 1 := by kernel_rfl
set_option maxRecDepth 20000 in
set_option maxHeartbeats 2000000 in
theorem joinedC (a : Option Addr) (c : Nat) (ss : List ByteArray) (w : World) (hs : SS w a ss) (hn : ss.length <= 1048576) (htot : tot ss <= 16000000) :
  Calls Tryz.prog 168 #[.slice a ss.length c] w fun e w' => e = .returned (.string (catB ss)) /\ Below w.heap.size w w' := by
 go_enter Tryz.func168, Tryz.ntmps168
 go_wp2
 go_loop [3, 5, 12] (fun z _ i => ∃ k : Nat, k <= ss.length /\ i = .int .i64 k /\ z = .int .i64 (tot (ss.take k))) (fun _ _ i => ss.length - (intOf i).toNat)
 case atStart => exact ⟨0, Nat.zero_le _, rfl, rfl⟩
 case round =>
  obtain ⟨k, hk, rfl, rfl⟩ := hrel
  by_cases hlt : k < ss.length
  ·obtain ⟨b, off, rfl, hb, hc⟩ := hs.2 k hlt
   have hts := tot_take ss k hlt
   have ht2 := tot_take_le ss (k + 1)
   have ht3 := tot_nonneg (ss.take k)
   obtain ⟨s, hse⟩ : ∃ s, s = ss.getD k ByteArray.empty := ⟨_, rfl⟩
   rw [<- hse] at hc hts
   obtain ⟨T, hT⟩ : ∃ T, tot (ss.take k) = T := ⟨_, rfl⟩
   rw [hT] at hts ht3 ⊢
   have HT : Hid (tot (ss.take (k + 1)) = T + s.size) := hts
   have hbd : T + s.size <= 16000000 := by omega
   clear hts hse ht2 hT
   go_wp2
   go_round
   case rel => exact ⟨k + 1, by omega, by go_num, by rw [HT.out]⟩
   case measure => simp [intOf]; omega
  ·have e : ss.take k = ss := List.take_of_length_le (by omega)
   rw [e]
   have qk : ¬ (k : Int) < (ss.length : Int) := by omega
   obtain ⟨N, hN⟩ : ∃ N : Nat, (catB ss).size = N := ⟨_, rfl⟩
   have hN' : tot ss = (N : Int) := by rw [<- catB_size, hN]
   rw [hN'] at htot ⊢
   obtain ⟨i5, hi5, hz5, hs5, hb5⟩ := info_parts infoU8
   obtain ⟨W1, hmk, o1, g1⟩ := run_makeSlice_full (P := Tryz.prog) (w := w) w.heap.size 148 5 i5 (.int .u8 0) 1 undBytes hi5 hz5 hs5 .i64 .i64 N (by omega) (by rw [hb5]; omega) (by unfold maxLen; omega) (Nat.le_refl _)
   have b1 : Below w.heap.size w W1 := (Below.refl w.heap.size w).grown g1 (Nat.le_refl _) (fun j h => by cases h)
   have B0 : BR w.heap.size N (catB (ss.take 0)).data.toList W1 := by
    rcases o1.2 with ⟨h, _⟩ | ⟨g, cap, cur, hv, hg, r⟩
    ·cases h
    ·obtain ⟨hh, h1, _, hc, _⟩ := r
     simp only [Value.slice.injEq, Option.some.injEq, Addr.mk.injEq, and_true] at hv
     obtain ⟨hg1, _, hcap⟩ := hv
     subst hg1
     exact ⟨cur, hh, by omega, rfl, Nat.zero_le _⟩
   clear o1 g1
   have htk : ∀ j, (catB (ss.take j)).data.toList.length <= N := fun j => by
    have h1 := catB_len (ss.take j)
    have h2 := tot_take_le ss j
    omega
   have HN : Hid ((catB ss).size = N) := hN
   go_wp2
   clear hmk hi5 hz5 hs5 hb5 hN hN' e hk hlt qk
   go_loopw [7, 9, 25] (fun z _ i wr => ∃ k : Nat, k <= ss.length /\ i = .int .i64 k /\ z = .int .i64 ((catB (ss.take k)).data.toList.length : Nat) /\ BR w.heap.size N (catB (ss.take k)).data.toList wr /\ Below w.heap.size w wr) (fun _ _ i _ => ss.length - (intOf i).toNat)
   case atStart => exact ⟨0, Nat.zero_le _, rfl, rfl, B0, b1⟩
   case round =>
    obtain ⟨k, hk, rfl, rfl, hB, hbel⟩ := hrel
    clear B0 b1
    by_cases hlt : k < ss.length
    ·have qk : (k : Int) < (ss.length : Int) := by omega
     obtain ⟨b, off, rfl, hb, hc⟩ := (hs.below hbel).2 k hlt
     have hsn := catB_snoc ss k hlt
     have h2 := htk (k + 1)
     have h1 := htk k
     obtain ⟨s, hse⟩ : ∃ s, s = ss.getD k ByteArray.empty := ⟨_, rfl⟩
     rw [<- hse] at hc hsn
     obtain ⟨u, hu⟩ : ∃ u, (catB (ss.take k)).data.toList = u := ⟨_, rfl⟩
     rw [hu] at hsn hB h1 ⊢
     have e1 : s.data.toList.length = s.size := by simp
     rw [hsn, List.length_append, e1] at h2
     have HU : Hid ((catB (ss.take (k + 1))).data.toList = u ++ s.data.toList) := hsn
     clear hse hu hsn
     by_cases h0 : s.size = 0
     ·have hcp : ∀ (d : Option Addr) (n m : Nat) (W : World), (Builtin.copy_ #[148, 9] 3 #[.slice d n m, .string s]).run Tryz.prog W = .ok (.int .i64 0) W := fun d n m W => Lib.run_copy_empty_string W _ _ _ 5 d n m s undBytes (by rw [infoSize]; rfl) h0
      have q1 : ((u.length : Nat) : Int) <= (N : Int) := by omega
      have HU' : Hid ((catB (ss.take (k + 1))).data.toList = u) := by
       show _ = _
       have z : s.data.toList = [] := List.length_eq_zero_iff.1 (by rw [e1]; exact h0)
       rw [HU.out, z, List.append_nil]
      clear HU
      go_wp2
      refine ⟨⟨k + 1, by omega, by go_num, by rw [HU'.out], by rw [HU'.out]; exact hB, hbel⟩, ?_⟩
      first | (simp [intOf]; omega) | simp [intOf]
     ·obtain ⟨cur, hh, hcs, ht, hun⟩ := hB
      have hcp : (Builtin.copy_ #[148, 9] 3 #[.slice (some ⟨w.heap.size, u.length, none⟩) (N - u.length) (N - u.length), .string s]).run Tryz.prog wr = .ok (.int .i64 (s.size : Nat)) (wr.setRow w.heap.size (cur.toList.take u.length ++ Lib.byteCells s.data.toList ++ cur.toList.drop (u.length + s.size)).toArray) := Lib.run_copy_row_string wr _ _ _ 5 w.heap.size u.length _ _ s cur _ undBytes infoSize hh (by omega) (by omega)
      have q1 : ((u.length : Nat) : Int) < (N : Int) := by omega
      have hne : ¬ N - u.length = 0 := by omega
      have HB := BR.copied cur hh hcs ht hun s (by omega)
      have HL := below_setRow hbel (Nat.le_refl _) (cur.toList.take u.length ++ Lib.byteCells s.data.toList ++ cur.toList.drop (u.length + s.size)).toArray
      have HLn : Hid (((catB (ss.take (k + 1))).data.toList.length : Int) = (u.length : Int) + (s.size : Int)) := by
       show _ = _
       rw [HU.out, List.length_append, e1]
       omega
      obtain ⟨C, hC⟩ : ∃ C, (cur.toList.take u.length ++ Lib.byteCells s.data.toList ++ cur.toList.drop (u.length + s.size)).toArray = C := ⟨_, rfl⟩
      rw [hC] at hcp HB HL
      clear hC hh ht
      go_wp2
      refine ⟨⟨k + 1, by omega, by go_num, ?_, by rw [HU.out]; exact HB, HL⟩, ?_⟩
      ·first | exact congrArg (Value.int IntKind.i64) HLn.out.symm | (rw [HLn.out]; go_num)
      ·first | (simp [intOf]; omega) | simp [intOf]
    ·have e : ss.take k = ss := List.take_of_length_le (by omega)
     have qk : ¬ (k : Int) < (ss.length : Int) := by omega
     rw [e] at hB ⊢
     have hcv := Lib.run_convert_whole (P := Tryz.prog) wr 148 5 9 undBytes Tryz.underlying5 Tryz.underlying9 w.heap.size 0 (catB ss) hB.bytes N
     rw [HN.out] at hcv
     obtain ⟨X, hX⟩ : ∃ X, catB ss = X := ⟨_, rfl⟩
     have HX : Hid (X = catB ss) := hX.symm
     rw [hX] at hcv ⊢
     clear hX e hB
     go_wp2
     go_ret
     exact ⟨by rw [<- HX.out]; rfl, hbel⟩
end Go.Proofs.YtgincoiehbdphaaGreatDoor.Jd
namespace Go.Proofs.YtgincoiehbdphaaGreatDoor
open Go.ChangeShapes Go.WideShapes Go.ChangeAt Go.RowKit
def jl (ss : List ByteArray) : Nat -> List UInt8
 | 0 => (ss.getD 0 ByteArray.empty).data.toList
 | k + 1 => jl ss k ++ (32 :: (ss.getD (k + 1) ByteArray.empty).data.toList)
def jnB (ss : List ByteArray) : ByteArray := ⟨(jl ss (ss.length - 1)).toArray⟩
theorem jl_len (ss : List ByteArray) : ∀ k, k < ss.length -> ((jl ss k).length : Int) = tot (ss.take (k + 1)) + k
 | 0, h => by
  rw [tot_take ss 0 h]
  simp [jl, tot]
 | k + 1, h => by
  have ih := jl_len ss k (by omega)
  rw [tot_take ss (k + 1) h, jl, List.length_append]
  simp only [List.length_cons, Array.length_toList]
  have : (ss.getD (k + 1) ByteArray.empty).data.size = (ss.getD (k + 1) ByteArray.empty).size := rfl
  omega
set_option maxRecDepth 20000 in
set_option maxHeartbeats 4000000 in
theorem joinC (g off c : Nat) (ss : List ByteArray) (w : World) (hs : SS w (some ⟨g, off, none⟩) ss) (h2 : 2 <= ss.length) (hc : ss.length <= c) (hn : ss.length <= 1048576) (htot : tot ss <= 1048576) :
  Calls Tryz.prog 223 #[.slice (some ⟨g, off, none⟩) ss.length c, .string ⟨#[32]⟩] w fun e w' => e = .returned (.string (jnB ss)) /\ Below w.heap.size w w' := by
 have q0 : ((ss.length : Int) == 0) = false := beq_eq_false_iff_ne.2 (by omega)
 have q1 : ((ss.length : Int) == 1) = false := beq_eq_false_iff_ne.2 (by omega)
 have hq : (2 : Int) <= 9223372036854775807 / ((ss.length : Int) - 1) := (Int.le_ediv_iff_mul_le (by omega)).2 (by omega)
 have q2 : ¬ (9223372036854775807 / ((ss.length : Int) - 1) <= (1 : Int)) := by
  generalize 9223372036854775807 / ((ss.length : Int) - 1) = Q at hq
  omega
 have q3 : ((ss.length : Int) - 1 == 0) = false := beq_eq_false_iff_ne.2 (by omega)
 have hcell : ∀ k, k < ss.length -> ∀ W : World, Below w.heap.size w W -> W.cell? ⟨g, off + k, none⟩ = some (.string (ss.getD k ByteArray.empty)) := fun k hk W hb => by
  obtain ⟨b, off', e, hb', hc'⟩ := hs.2 k hk
  simp only [Option.some.injEq, Addr.mk.injEq] at e
  obtain ⟨rfl, rfl, _⟩ := e
  exact (hb.cell (p := ⟨g, off + k, none⟩) hb').trans hc'
 have hg : g < w.heap.size := by
  obtain ⟨b, off', e, hb', _⟩ := hs.2 0 (by omega)
  simp only [Option.some.injEq, Addr.mk.injEq] at e
  rw [e.1]; exact hb'
 have ht0 := tot_nonneg ss
 have HCell : Hid (∀ k, k < ss.length -> ∀ W : World, Below w.heap.size w W -> W.cell? ⟨g, off + k, none⟩ = some (.string (ss.getD k ByteArray.empty))) := hcell
 clear hs hcell hq
 go_enter Tryz.func223, Tryz.ntmps223
 go_wp2
 go_loop [5, 41] (fun t i => ∃ k : Nat, k <= ss.length /\ i = .int .i64 k /\ t = .int .i64 (((ss.length : Int) - 1) + tot (ss.take k))) (fun _ i => ss.length - (intOf i).toNat)
 case atStart => exact ⟨0, Nat.zero_le _, rfl, by simp [tot]⟩
 case round =>
  obtain ⟨k, hk, rfl, rfl⟩ := hrel
  by_cases hlt : k < ss.length
  ·have q : (k : Int) < (ss.length : Int) := by omega
   have hc0 := HCell.out k hlt w (Below.refl _ _)
   have hts := tot_take ss k hlt
   have ht2 := tot_take_le ss (k + 1)
   have ht3 := tot_nonneg (ss.take k)
   obtain ⟨s, hse⟩ : ∃ s, ss.getD k ByteArray.empty = s := ⟨_, rfl⟩
   rw [hse] at hc0 hts
   obtain ⟨T, hT⟩ : ∃ T, tot (ss.take k) = T := ⟨_, rfl⟩
   rw [hT] at hts ht3 ⊢
   have HT : Hid (tot (ss.take (k + 1)) = T + (s.size : Int)) := hts
   have hb1 : T + (s.size : Int) <= 1048576 := by omega
   clear hse hT hts ht2
   go_wp2
   go_round
   case rel => exact ⟨k + 1, by omega, by go_num, by rw [HT.out]; go_num⟩
   case measure => simp [intOf]; omega
  ·have q : ¬ (k : Int) < (ss.length : Int) := by omega
   have e : ss.take k = ss := List.take_of_length_le (by omega)
   rw [e]
   clear e
   obtain ⟨N, hN⟩ : ∃ N : Nat, (N : Int) = ((ss.length : Int) - 1) + tot ss := ⟨(((ss.length : Int) - 1) + tot ss).toNat, by omega⟩
   rw [<- hN]
   have hNb : N <= 281474976710656 := by omega
   obtain ⟨W1, hW1⟩ : ∃ W, w.alloc (.cells #[.pointer none, .slice none 0 0] 273) = W := ⟨_, rfl⟩
   have b1 : Below w.heap.size w W1 := by rw [<- hW1]; exact (Below.refl _ _).alloc (Nat.le_refl _) _
   have hbk : W1.heap[w.heap.size]? = some (.cells #[.pointer none, .slice none 0 0] 273 (0, 0)) := by rw [<- hW1]; exact heap_alloc_new _ _
   have hG := Tryz.Builder_Grow_fresh w.heap.size w.heap.size N W1 (Nat.le_refl _) hbk b1.size hNb
   clear hN hbk
   go_wp2_with fail
   refine hG.mono ?_; rintro e w2 ⟨rfl, h2', b2⟩
   have B2 := b1.trans b2
   have c0 := HCell.out 0 (by omega) w2 B2
   rw [Nat.add_zero] at c0
   clear hG b1 b2 hW1
   obtain ⟨s0, hs0⟩ : ∃ s, ss.getD 0 ByteArray.empty = s := ⟨_, rfl⟩
   rw [hs0] at c0
   have hl0 : s0.size <= 1048576 := by
    have := tot_take ss 0 (by omega)
    have h3 := tot_take_le ss (0 + 1)
    rw [hs0] at this
    have h4 : tot (ss.take 0) = 0 := by simp [tot]
    omega
   have hWs := writeString w.heap.size w.heap.size [] s0 w2 (.inr h2') (by simp; omega) B2.size
   go_wp2_with fail
   refine hWs.mono ?_; rintro e w3 ⟨rfl, h3', b3⟩
   have B3 := B2.trans b3
   have HI : Lib.IsBuilder 273 5 w.heap.size w.heap.size (Lib.byteCells (jl ss 0)) w3 := by
    rw [show jl ss 0 = s0.data.toList by rw [jl, hs0], <- Lib.strCells_eq]
    exact .inr (by simpa using h3')
   clear hWs h2' h3' b3 c0 B2 hs0
   have qc : ¬ c = 1 := by omega
   have q5 : (1 : Int) <= (ss.length : Int) := by omega
   have q6 : (ss.length : Int) <= (c : Int) := by omega
   go_wp2
   go_loopw [65] (fun i wr => ∃ k : Nat, k + 1 <= ss.length /\ i = .int .i64 k /\ Lib.IsBuilder 273 5 w.heap.size w.heap.size (Lib.byteCells (jl ss k)) wr /\ Below w.heap.size w wr) (fun i _ => ss.length - (intOf i).toNat)
   case atStart => exact ⟨0, by omega, rfl, HI, B3⟩
   case round =>
    clear HI B3
    obtain ⟨k, hk, rfl, hB, hbel⟩ := hrel
    have hsz := hbel.size
    by_cases hlt : k + 1 < ss.length
    ·have q : (k : Int) < ((ss.length - 1 : Nat) : Int) := by omega
     have hc1 := HCell.out (k + 1) hlt wr hbel
     have hln := jl_len ss k (by omega)
     have ht2 := tot_take_le ss (k + 1)
     have hts := tot_take ss (k + 1) hlt
     have ht4 := tot_take_le ss (k + 1 + 1)
     obtain ⟨s, hse⟩ : ∃ s, ss.getD (k + 1) ByteArray.empty = s := ⟨_, rfl⟩
     have hjl : jl ss (k + 1) = jl ss k ++ ([32] ++ s.data.toList) := by rw [jl, hse]; rfl
     rw [hse] at hc1 hts
     have hl1 : (Lib.byteCells (jl ss k)).length + (⟨#[32]⟩ : ByteArray).size <= 140737488355328 := by
      rw [Lib.byteCells_length]; show _ + 1 <= _; omega
     have hW1 := writeString w.heap.size w.heap.size _ ⟨#[32]⟩ wr hB hl1 hsz
     have hl2 : ∀ bs : List Value, bs.length = (jl ss k).length + 1 -> bs.length + s.size <= 140737488355328 := fun bs e => by omega
     have HJ : Hid (jl ss (k + 1) = jl ss k ++ ([32] ++ s.data.toList)) := hjl
     rw [show off + (k + 1) = off + 1 + k by omega] at hc1
     clear hts ht2 ht4 hln hse hjl hl1
     go_wp2_with fail
     refine hW1.mono ?_; rintro e w4 ⟨rfl, h4, b4⟩
     have hW2 := writeString w.heap.size w.heap.size _ s w4 (.inr h4) (hl2 _ (by rw [List.length_append, Lib.byteCells_length]; rfl)) (Nat.le_trans hsz b4.size)
     clear hW1 hl2
     go_wp2_with fail
     refine hW2.mono ?_; rintro e w5 ⟨rfl, h5, b5⟩
     have HI : Hid (Lib.IsBuilder 273 5 w.heap.size w.heap.size (Lib.byteCells (jl ss (k + 1))) w5) := by
      show Lib.IsBuilder _ _ _ _ _ _
      rw [HJ.out, Lib.byteCells_append, Lib.byteCells_append, <- List.append_assoc, <- Lib.strCells_eq]
      exact .inr h5
     have B5 := (hbel.trans b4).trans b5
     clear hW2 h4 h5 b4 b5 hB
     go_wp2
     go_roundw
     case rel => exact ⟨k + 1, by omega, by go_num, HI.out, B5⟩
     case measure => simp [intOf]; omega
    ·have q : ¬ (k : Int) < ((ss.length - 1 : Nat) : Int) := by omega
     have ek : k = ss.length - 1 := by omega
     have hSt := Tryz.Builder_String_any _ _ _ _ hB hsz
     go_wp2_with fail
     refine hSt.mono ?_; rintro e w4 ⟨rfl, b4⟩
     have B4 := hbel.trans b4
     clear hSt b4 hB hbel
     go_wp2
     go_ret
     refine ⟨?_, B4⟩
     unfold jnB
     rw [<- ek]
     rfl
end Go.Proofs.YtgincoiehbdphaaGreatDoor
