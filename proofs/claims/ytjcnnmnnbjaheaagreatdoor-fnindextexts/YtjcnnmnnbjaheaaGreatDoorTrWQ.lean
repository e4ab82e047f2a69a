/- The contract of the program's writeTree. No statement is proved here. -/
import Derived.Test.YtjcnnmnnbjaheaaGreatDoorRows
import Derived.Test.YtjcnnmnnbjaheaaGreatDoorLemQ
import Derived.Test.YtjcnnmnnbjaheaaGreatDoorDTabQ
import Derived.Test.YtjcnnmnnbjaheaaGreatDoorHkTQ
import Derived.Test.YtjcnnmnnbjaheaaGreatDoorIterQ
import Derived.Test.YtjcnnmnnbjaheaaGreatDoorIdLQ
import Derived.Test.YtjcnnmnnbjaheaaGreatDoorTeLQ
import Derived.Test.YtjcnnmnnbjaheaaGreatDoorWwCQ
import Derived.Test.YtjcnnmnnbjaheaaGreatDoorJnCQ
import Derived.WalkKit
import Derived.ProofKit
import Derived.Below
import Derived.WalkSpells
import Derived.Deep.RegionWith
import Derived.Deep.RegionHeld
import Derived.Deep.QuietTactic
import Derived.BigQuiet
import Derived.Shelf.Strings.Builder1
import Derived.Shelf.Strings.Builder2
import Derived.Shelf.Strings.OnBuilder
import Derived.Shelf.Strings.Trim
import Derived.Shelf.Small.Utf8
import Derived.Shelf.Small.Strs
import Derived.Shelf.Small.Wraps
import Derived.Shelf.Strings.BuilderF
import Derived.Shelf.Strconv.Itoa0
import Derived.Shelf.Strconv.Itoa1
import Derived.Shelf.LaysM
import Derived.Shelf.Strconv.Itoa2
import Derived.Shelf.Strconv.Itoa3
import Derived.Shelf.Strconv.Itoa4
import Derived.Shelf.Strconv.Clone
import Derived.Shelf.Strings.Search1
import Derived.Shelf.Strings.Search2
import Derived.Shelf.Strings.Search3
import Derived.Shelf.Strings.Count
import Derived.Shelf.Strings.Shaped
import Derived.Shelf.Strings.Prefix
import Derived.Shelf.Strings.Split
import Derived.Shelf.Strings.Runes
import Derived.Shelf.Strings.AsciiSet
import Derived.Shelf.Unicode.DecodeSlow
import Derived.Test.YtjcnnmnnbjaheaaGreatDoorProg
import Derived.Lib.LaidTab
import Derived.Lib.ItoaNum
import Derived.Test.YtjcnnmnnbjaheaaGreatDoorCutLQ
import Derived.Test.YtjcnnmnnbjaheaaGreatDoorSsCQ
import Derived.Test.YtjcnnmnnbjaheaaGreatDoorIxMQ
namespace Go.Proofs.YtjcnnmnnbjaheaaGreatDoor.Te
open Go.ChangeShapes Go.WideShapes Go.ChangeAt Go.RowKit

/-- Entries that are right, each by itself. -/
def Fine (l : List Ob) : Prop := ∀ k, k < l.length → ef (l.getD k onil).1 (l.getD k onil).2.1 (l.getD k onil).2.2 = 0
theorem ef_zero {x0 : ByteArray} {x1 : Int} {x2 : ByteArray} (h : ef x0 x1 x2 = 0) : nf x0 = 0 ∧ inB x1 1 3 = true ∧ isOf (ek x1) x2 = true := by
  by_cases h0 : nf x0 = 0
  · cases hin : inB x1 1 3 with
    | false => rw [ef_mode h0 hin] at h; omega
    | true =>
      cases hb : isOf (ek x1) x2 with
      | false => rw [ef_id h0 hin hb] at h; omega
      | true => exact ⟨h0, rfl, rfl⟩
  · rw [ef_name h0] at h; exact absurd h h0
theorem nf_size {s : ByteArray} (h : nf s = 0) : s.size ≤ 12 := by
  by_cases h1 : 12 < s.size
  · rw [nf_long h1] at h; omega
  · omega
theorem isOf_size {k : Int} {id : ByteArray} (h : isOf k id = true) : id.size = 5 := by
  unfold isOf at h
  cases hb : idB id.data.toList with
  | false => rw [hb] at h; cases h
  | true =>
    obtain ⟨a, b, c, d, e, rfl⟩ := id5 hb
    rfl
theorem wd_size (m : Int) : (wd m).size ≤ 4 := by
  unfold wd
  split
  · decide
  · split <;> decide
theorem el_len {o : Ob} (h : ef o.1 o.2.1 o.2.2 = 0) : (el o).length ≤ 24 := by
  obtain ⟨h0, _, h2⟩ := ef_zero h
  have a := nf_size h0
  have b := isOf_size h2
  have c := wd_size o.2.1
  unfold el
  simp only [List.length_append, List.length_cons, Array.length_toList, List.length_nil]
  have e1 : o.1.data.size = o.1.size := rfl
  have e2 : o.2.2.data.size = o.2.2.size := rfl
  have e3 : (wd o.2.1).data.size = (wd o.2.1).size := rfl
  omega
theorem tr_len {l : List Ob} : ∀ k, k ≤ l.length → (∀ j, j < k → ef (l.getD j onil).1 (l.getD j onil).2.1 (l.getD j onil).2.2 = 0) → (trL (l.take k)).length ≤ 24 * k
  | 0, _, _ => by simp [trL]
  | k + 1, h, hf => by
    have ih := tr_len k (by omega) (fun j hj => hf j (by omega))
    rw [trL_take l k (by omega), List.length_append]
    have := el_len (hf k (by omega))
    omega
theorem trB_size {l : List Ob} (k : Nat) : (trB (l.take k)).size = (trL (l.take k)).length := by
  unfold trB
  show (trL (l.take k)).toArray.size = _
  simp
/-- The fault of the entry at a place; the first fault of a list. -/
def leT (a b : ByteArray) : Bool := Op.bytesLess a.toList b.toList || a.toList == b.toList
def teF (l : List Ob) (k : Nat) : Int :=
  if ef (l.getD k onil).1 (l.getD k onil).2.1 (l.getD k onil).2.2 = 0 then (if 0 < k ∧ leT (l.getD k onil).1 (l.getD (k - 1) onil).1 = true then 1 else 0) else ef (l.getD k onil).1 (l.getD k onil).2.1 (l.getD k onil).2.2
def trE (l : List Ob) : Int := if 100 < l.length then 2 else (((List.range l.length).map (teF l)).find? (fun x => decide (x ≠ 0))).getD 0
theorem trE_many {l : List Ob} (h : 100 < l.length) : trE l = 2 := if_pos h
theorem trE_bad {l : List Ob} {k : Nat} (h : ¬ 100 < l.length) (hk : k < l.length) (h0 : ∀ j, j < k → teF l j = 0) (hb : ¬ teF l k = 0) : trE l = teF l k := by
  unfold trE
  rw [if_neg h]
  have : ((List.range l.length).map (teF l)).find? (fun x => decide (x ≠ 0)) = some (teF l k) := by
    rw [List.find?_eq_some_iff_getElem]
    refine ⟨by simp [hb], k, by simp [hk], by simp, fun j hj => ?_⟩
    simp [h0 j hj]
  rw [this]; rfl
theorem trE_ok {l : List Ob} (h : ¬ 100 < l.length) (h0 : ∀ j, j < l.length → teF l j = 0) : trE l = 0 := by
  unfold trE
  rw [if_neg h]
  have : ((List.range l.length).map (teF l)).find? (fun x => decide (x ≠ 0)) = none := by
    rw [List.find?_eq_none]
    intro x hx
    obtain ⟨j, hj, rfl⟩ := List.mem_map.1 hx
    simp [h0 j (List.mem_range.1 hj)]
  rw [this]; rfl
theorem teF_ef {l : List Ob} {k : Nat} (h : teF l k = 0) : ef (l.getD k onil).1 (l.getD k onil).2.1 (l.getD k onil).2.2 = 0 := by
  unfold teF at h
  by_cases e : ef (l.getD k onil).1 (l.getD k onil).2.1 (l.getD k onil).2.2 = 0
  · exact e
  · rw [if_neg e] at h; exact absurd h e
/-- The words of modes, as the program keeps them. -/
def MwG (w : World) : Prop := w.cell? ⟨0, 0, none⟩ = some (.string ⟨#[102, 105, 108, 101]⟩) ∧ w.cell? ⟨0, 1, none⟩ = some (.string ⟨#[114, 117, 110]⟩) ∧ w.cell? ⟨0, 2, none⟩ = some (.string ⟨#[116, 114, 101, 101]⟩)
theorem MwG.below {B : Nat} {w w' : World} (h : MwG w) (hb : Below B w w') (hB : 0 < B) : MwG w' :=
  ⟨(hb.cell (p := ⟨0, 0, none⟩) hB).trans h.1, (hb.cell (p := ⟨0, 1, none⟩) hB).trans h.2.1, (hb.cell (p := ⟨0, 2, none⟩) hB).trans h.2.2⟩
/-- The line of an entry is the line of its words. -/
theorem wl_el (o : Ob) : wl [wd o.2.1, o.2.2, o.1] = el o := by
  unfold wl jnB el
  show (jl [wd o.2.1, o.2.2, o.1] 2) ++ [10] = _
  simp [jl]
theorem ss3 (w : World) (x y z : ByteArray) (hx : x.size ≤ 1048576) (hy : y.size ≤ 1048576) (hz : z.size ≤ 1048576) : SS (w.alloc (.cells #[.string x, .string y, .string z] 9)) (some ⟨w.heap.size, 0, none⟩) [x, y, z] := by
  refine ⟨?_, ?_⟩
  · intro k hk
    match k, hk with
    | 0, _ => show x.size ≤ _; omega
    | 1, _ => show y.size ≤ _; omega
    | 2, _ => show z.size ≤ _; omega
  · intro k hk
    refine ⟨w.heap.size, 0, rfl, by simp, ?_⟩
    match k, hk with
    | 0, _ => exact Rs.new w #[.string x, .string y, .string z] _ 0 _ rfl
    | 1, _ => exact Rs.new w #[.string x, .string y, .string z] _ 1 _ rfl
    | 2, _ => exact Rs.new w #[.string x, .string y, .string z] _ 2 _ rfl
end Go.Proofs.YtjcnnmnnbjaheaaGreatDoor.Te
/- Contracts of the library that are laid at this program: Tryz.strconv_FormatInt_10. No statement is proved here. -/
namespace Go.Proofs
open Go.Shelf
def Tryz.laysM173_ren : Go.Shelf.Ren := ⟨fun | 173 => 53 | 246 => 89 | 283 => 108 | 284 => 109 | 285 => 110 | 286 => 111 | 129 => 126 | 317 => 125 | 318 => 127 | 319 => 128 | 320 => 129 | 337 => 139 | 338 => 140 | n => n, fun | 2 => 2 | 3 => 3 | 9 => 9 | 4 => 4 | 171 => 120 | 0 => 0 | 53 => 121 | 37 => 22 | 5 => 5 | 173 => 124 | 212 => 133 | 51 => 104 | 20 => 20 | 213 => 134 | 46 => 136 | 232 => 146 | 233 => 147 | n => n, fun | 17 => 1 | 18 => 5 | 19 => 6 | n => n⟩
theorem Tryz.laysM173 : Go.Proofs.LaysM.n173 Tryz.prog Tryz.laysM173_ren := {
  mixed := by kernel_rfl
  f129 := Tryz.func126.trans (congrArg some (by kernel_rfl))
  f173 := Tryz.func53.trans (congrArg some (by kernel_rfl))
  f246 := Tryz.func89.trans (congrArg some (by kernel_rfl))
  f283 := Tryz.func108.trans (congrArg some (by kernel_rfl))
  f284 := Tryz.func109.trans (congrArg some (by kernel_rfl))
  f285 := Tryz.func110.trans (congrArg some (by kernel_rfl))
  f286 := Tryz.func111.trans (congrArg some (by kernel_rfl))
  f317 := Tryz.func125.trans (congrArg some (by kernel_rfl))
  f318 := Tryz.func127.trans (congrArg some (by kernel_rfl))
  f319 := Tryz.func128.trans (congrArg some (by kernel_rfl))
  f320 := Tryz.func129.trans (congrArg some (by kernel_rfl))
  f337 := Tryz.func139.trans (congrArg some (by kernel_rfl))
  f338 := Tryz.func140.trans (congrArg some (by kernel_rfl))
  t0 := Tryz.underlying0
  a0 := Tryz.isAgg0
  z0 := Tryz.sizeOf0
  v0 := Tryz.zeroValue0
  t2 := Tryz.underlying2
  a2 := Tryz.isAgg2
  z2 := Tryz.sizeOf2
  v2 := Tryz.zeroValue2
  t3 := Tryz.underlying3
  a3 := Tryz.isAgg3
  z3 := Tryz.sizeOf3
  v3 := Tryz.zeroValue3
  t4 := Tryz.underlying4
  a4 := Tryz.isAgg4
  z4 := Tryz.sizeOf4
  v4 := Tryz.zeroValue4
  t5 := Tryz.underlying5
  a5 := Tryz.isAgg5
  z5 := Tryz.sizeOf5
  v5 := Tryz.zeroValue5
  t9 := Tryz.underlying9
  a9 := Tryz.isAgg9
  z9 := Tryz.sizeOf9
  v9 := Tryz.zeroValue9
  t20 := Tryz.underlying20
  a20 := Tryz.isAgg20
  z20 := Tryz.sizeOf20
  v20 := Tryz.zeroValue20
  t37 := Tryz.underlying22
  a37 := Tryz.isAgg22
  z37 := Tryz.sizeOf22
  v37 := Tryz.zeroValue22
  t46 := Tryz.underlying136
  a46 := Tryz.isAgg136
  z46 := Tryz.sizeOf136
  v46 := Tryz.zeroValue136
  t51 := Tryz.underlying104
  a51 := Tryz.isAgg104
  z51 := Tryz.sizeOf104
  v51 := Tryz.zeroValue104
  t53 := Tryz.underlying121
  a53 := Tryz.isAgg121
  z53 := Tryz.sizeOf121
  v53 := Tryz.zeroValue121
  t171 := Tryz.underlying120
  a171 := Tryz.isAgg120
  z171 := Tryz.sizeOf120
  v171 := Tryz.zeroValue120
  t173 := Tryz.underlying124
  a173 := Tryz.isAgg124
  z173 := Tryz.sizeOf124
  v173 := Tryz.zeroValue124
  t212 := Tryz.underlying133
  a212 := Tryz.isAgg133
  z212 := Tryz.sizeOf133
  v212 := Tryz.zeroValue133
  t213 := Tryz.underlying134
  a213 := Tryz.isAgg134
  z213 := Tryz.sizeOf134
  t232 := Tryz.underlying146
  a232 := Tryz.isAgg146
  z232 := Tryz.sizeOf146
  v232 := Tryz.zeroValue146
  t233 := Tryz.underlying147
  a233 := Tryz.isAgg147
  z233 := Tryz.sizeOf147
  v233 := Tryz.zeroValue147
  g17 := by kernel_rfl
  g18 := by kernel_rfl
  g19 := by kernel_rfl
  i0 := by kernel_rfl
  i2 := by kernel_rfl
  i3 := by kernel_rfl
  i4 := by kernel_rfl
  i5 := by kernel_rfl
  i9 := by kernel_rfl
  i20 := by kernel_rfl
  i37 := by kernel_rfl
  i46 := by kernel_rfl
  i51 := by kernel_rfl
  i53 := by kernel_rfl
  i171 := by kernel_rfl
  i173 := by kernel_rfl
  i212 := by kernel_rfl
  i232 := by kernel_rfl
  i233 := by kernel_rfl
  m17 := by kernel_rfl
  m18 := by kernel_rfl
  m19 := by kernel_rfl }
open Go.RowKit Go.Sort Go.Lib in
theorem Tryz.strconv_FormatInt_10 (n : Int) (h0 : -9223372036854775808 ≤ n) (h1 : n ≤ 9223372036854775807) (w : World) (htab : Lib.TabIs Tryz.prog w "internal/strconv.uint64pow10" .u64 Lib.pow10Tab) :
    Calls Tryz.prog 53 #[.int .i64 n, .int .i64 10] w fun e w' => e = .returned (.string ⟨(Lib.itoa n).toArray⟩) ∧ ∃ k os, w' = grow (w.drewN k) os := Any.strconv_FormatInt_10 Tryz.laysM173 n h0 h1 w htab
end Go.Proofs
/- The contract of strconv.FormatInt at a commit's time, and its table. No statement is proved here. -/
namespace Go.Proofs.YtjcnnmnnbjaheaaGreatDoor
open Go.RowKit Go.Sort

/-- The table of powers that strconv reads. -/
def TaG (w : World) : Prop := Lib.TabIs Tryz.prog w "internal/strconv.uint64pow10" .u64 Lib.pow10Tab
theorem gTa : Tryz.prog.globalNamed "internal/strconv.uint64pow10" = some 1 := by kernel_rfl
theorem TaG.below {B : Nat} {w w' : World} (h : TaG w) (hb : Below B w w') (hB : 1 < B) : TaG w' := by
  unfold TaG Lib.TabIs World.var? at *
  rw [gTa] at h ⊢
  simp only [Option.bind_some] at h ⊢
  rw [hb.block _ hB]
  exact h
/-- A number's text. -/
def itB (n : Int) : ByteArray := ⟨(Lib.itoa n).toArray⟩
theorem belGrow (w : World) (q : Nat) (os : Array Obj) : Below w.heap.size w (grow (w.drewN q) os) :=
  ⟨rfl, rfl, rfl, by show w.heap.size ≤ (w.heap ++ os).size; simp, fun k hk => by show (w.heap ++ os)[k]? = w.heap[k]?; simp [Array.getElem?_append, hk]⟩
theorem formatInt (n : Int) (h0 : 0 ≤ n) (h1 : n ≤ 1000000000) (w : World) (ht : TaG w) :
    Calls Tryz.prog 53 #[.int .i64 n, .int .i64 10] w fun e w' => e = .returned (.string (itB n)) ∧ Below w.heap.size w w' := by
  refine (Tryz.strconv_FormatInt_10 n (by omega) (by omega) w ht).mono ?_
  rintro e w' ⟨rfl, k, os, rfl⟩
  exact ⟨rfl, belGrow w k os⟩
theorem dec_len : ∀ (d n : Nat), n < 10 ^ (d + 1) → (Lib.decDigits n).length ≤ d + 1
  | 0, n, h => by rw [Lib.decDigits, dif_pos (by omega)]; simp
  | d + 1, n, h => by
    by_cases h9 : n < 10
    · rw [Lib.decDigits, dif_pos h9]; simp
    · rw [Lib.decDigits, dif_neg h9]
      have := dec_len d (n / 10) (by rw [Nat.pow_succ] at h; omega)
      simp
      omega
theorem it_size {n : Int} (h0 : 0 ≤ n) (h1 : n ≤ 1000000000) : (itB n).size ≤ 10 := by
  show (Lib.itoa n).toArray.size ≤ 10
  rw [Lib.itoa, if_neg (by omega)]
  have := dec_len 9 n.toNat (by omega)
  simpa using this
end Go.Proofs.YtjcnnmnnbjaheaaGreatDoor
/- The text of an index: plain mathematics. No statement is proved here. -/
namespace Go.Proofs.YtjcnnmnnbjaheaaGreatDoor.En
open Go.ChangeShapes Go.WideShapes Go.ChangeAt Go.RowKit

theorem cut_sum (c : UInt8) : ∀ l : List UInt8, ((cutL c l).map (fun y => y.length + 1)).sum = l.length + 1
  | [] => by simp [cutL]
  | x :: xs => by
    have ih := cut_sum c xs
    by_cases h : x = c
    · simp only [cutL, if_pos h, List.map_cons, List.sum_cons, ih, List.length_nil, List.length_cons]; omega
    · simp only [cutL, if_neg h]
      cases e : cutL c xs with
      | nil => have := (cut_len c xs).1; rw [e] at this; simp at this
      | cons y ys => rw [e] at ih; simp only [List.map_cons, List.sum_cons, List.length_cons] at ih ⊢; omega
theorem sum_bd (m : Nat) : ∀ ls : List (List UInt8), (∀ y ∈ ls, y.length ≤ m) → (ls.map (fun y => y.length + 1)).sum ≤ (m + 1) * ls.length
  | [], _ => by simp
  | y :: ys, h => by
    have ih := sum_bd m ys (fun z hz => h z (List.mem_cons_of_mem _ hz))
    have h1 := h y List.mem_cons_self
    simp only [List.map_cons, List.sum_cons, List.length_cons, Nat.mul_add, Nat.mul_one]
    omega
theorem pf_size {s : ByteArray} (h : pf s = 0) : s.size ≤ 51 := by
  unfold pf at h
  split at h
  · rename_i q
    obtain ⟨q1, q2⟩ := q
    unfold cutOf cutFrom at q1 q2
    rw [List.length_map] at q1
    simp only [List.drop_zero] at q1 q2
    have h2 : ∀ y ∈ cutL 47 s.data.toList, y.length ≤ 12 := fun y hy => by
      have q3 := List.all_eq_true.1 q2 (mkB y) (List.mem_map.2 ⟨y, hy, rfl⟩)
      have q4 : nf (mkB y) = 0 := by simpa using q3
      have := Te.nf_size q4
      rw [← size_eq, mkB_data] at this
      exact this
    have h3 := sum_bd 12 _ h2
    rw [cut_sum, size_eq] at h3
    have h4 : 13 * (cutL 47 s.data.toList).length ≤ 13 * 4 := Nat.mul_le_mul_left _ q1
    omega
  · omega
/-- The line of an entry; the lines of entries; the text of an index. -/
def eL (o : Ob) : List UInt8 := wl [itB o.2.1, Te.wd o.2.2.1, o.2.2.2, o.1]
def xL (l : List Ob) : List UInt8 := l.flatMap eL
def wSum : ByteArray := ⟨#[115, 117, 109]⟩
def xA (l : List Ob) : List UInt8 := xL l ++ wl [wSum, itB (dig (xL l))]
def xB (l : List Ob) : ByteArray := ⟨(xA l).toArray⟩
theorem wl4_len (x y z u : ByteArray) : (wl [x, y, z, u]).length = x.size + y.size + z.size + u.size + 4 := by
  unfold wl jnB
  show (jl [x, y, z, u] 3 ++ [10]).length = _
  simp [jl]
  have e1 : x.data.size = x.size := rfl
  have e2 : y.data.size = y.size := rfl
  have e3 : z.data.size = z.size := rfl
  have e4 : u.data.size = u.size := rfl
  omega
theorem xL_take (l : List Ob) (k : Nat) (h : k < l.length) : xL (l.take (k + 1)) = xL (l.take k) ++ eL (l.getD k onil) := by
  unfold xL
  rw [ob_take l k h, List.flatMap_append]
  simp
theorem inB03 {x : Int} (h : inB x 0 3 = true) : 0 ≤ x ∧ x ≤ 3 := by
  unfold inB at h
  simpa using h
theorem eL_len {o : Ob} (h : eiO o = 0) : (eL o).length ≤ 100 := by
  obtain ⟨h0, h1, h2, h3⟩ := ei_zero h
  obtain ⟨q0, q1⟩ := inB03 h1
  have a := pf_size h0
  have b := Te.isOf_size h3
  have c := Te.wd_size o.2.2.1
  have d := it_size q0 (by omega)
  unfold eL
  rw [wl4_len]
  omega
theorem xL_len {l : List Ob} : ∀ k, k ≤ l.length → (∀ j, j < k → eiF l j = 0) → (xL (l.take k)).length ≤ 100 * k
  | 0, _, _ => by simp [xL]
  | k + 1, h, hf => by
    have ih := xL_len k (by omega) (fun j hj => hf j (by omega))
    rw [xL_take l k (by omega), List.length_append]
    have := eL_len (eiF_zero (hf k (by omega))).1
    omega
end Go.Proofs.YtjcnnmnnbjaheaaGreatDoor.En
