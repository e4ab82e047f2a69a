/- Texts of this claim, laid together: CmG, CutL, FdL, NtC, ShelfD, HdC, BldG, WwG, CfS, WcC, WcD, WcE. -/
import Derived.Test.YtgidcncmicmggamGreatDoorRows
import Derived.Test.YtgidcncmicmggamGreatDoorM1
import Derived.Test.YtgidcncmicmggamGreatDoorM2
import Derived.Test.YtgidcncmicmggamGreatDoorM3
import Derived.ProofKit
import Derived.ChangeSame
import Derived.ChangeVars
import Derived.JoinedOf
import Derived.RowKit
import Derived.RowKitTokens
import Derived.LaidLaws
import Derived.LaidHandle
import Derived.LaidMore
import Derived.OpenShut
import Derived.OpenVars
import Derived.Lib.LaidTab
import Derived.Stop.Joined
import Derived.WalkKit
import Derived.Below
import Derived.WalkSpells
import Derived.Deep.QuietTactic
import Derived.BigQuiet
import Derived.Shelf.Strings.Builder1
import Derived.Shelf.Strings.Builder2
import Derived.Shelf.Strings.OnBuilder
import Derived.Shelf.Small.Bits
import Derived.Shelf.Small.Strs
import Derived.Shelf.Strings.BuilderF
import Derived.Shelf.Strconv.Itoa0
import Derived.Shelf.Strconv.Itoa1
import Derived.Shelf.LaysM
import Derived.Shelf.Strconv.Itoa2
import Derived.Shelf.Strconv.Itoa3
import Derived.Shelf.Strconv.Itoa4
import Derived.Shelf.Strconv.ParseIntEmpty
import Derived.Shelf.Strconv.Clone
import Derived.Shelf.Strconv.SyntaxError
import Derived.Shelf.LaysC
import Derived.Shelf.Strconv.ToError
import Derived.Shelf.Strconv.Lower
import Derived.Shelf.Strconv.ParseUint10
import Derived.Shelf.Strconv.ParseUint10Empty
import Derived.Shelf.Strconv.ParseUint10Any
import Derived.Shelf.Strconv.ParseInt10
import Derived.Shelf.Strconv.RangeError
import Derived.Shelf.Strconv.ToErrorRange
import Derived.Shelf.Strconv.ParseUintEmpty
import Derived.Shelf.Strconv.ParseUint10b64
import Derived.Shelf.Strconv.ParseUint10b32
import Derived.Shelf.Strconv.ParseUint10b16
import Derived.Shelf.Strconv.ParseUint10b8
import Derived.Shelf.Strconv.ParseUint10At
import Derived.Shelf.Strconv.ParseInt10At64
import Derived.Shelf.Strconv.ParseInt10At32
import Derived.Shelf.Strconv.ParseInt10At16
import Derived.Shelf.Strconv.ParseInt10At8
import Derived.Shelf.Strconv.ParseInt10All
import Derived.Shelf.Strconv.ParseIntPublic10
import Derived.Shelf.Strings.Search1
import Derived.Shelf.Strings.Search2
import Derived.Shelf.Strings.Search3
import Derived.Shelf.Strings.Cut
import Derived.Shelf.Strings.Shaped
import Derived.Shelf.Unicode.Decode
import Derived.Shelf.Unicode.DecodeSlow
import Derived.Shelf.Unicode.DecodeAny
import Derived.Shelf.Slices.Turned
import Derived.Test.YtgidcncmicmggamGreatDoorProg
import Derived.Lib.SlicesS
import Derived.Laws.Cover1
import Derived.Deep.CutRange
import Derived.Maps.AppendAt
import Derived.Lib.Strings
import Derived.Lib.Slices
import Derived.Lib.Walk
import Derived.Lib.Builder
import Derived.Lib.AppendStr
import Derived.Lib.UnsafeStr
import Derived.Laws.Externs
import Derived.Deep.RegionWith
/- What the laid variables give a walk over commits (the variable of errors.As, strconv's table), and a world that meets the condition. No statement is proved here. -/
namespace Go.Proofs.YtgidcncmicmggamGreatDoor.Cm
open Go.ChangeShapes Go.WideShapes Go.ChangeAt Go.RowKit

theorem gTa : Tryz.prog.globalNamed "internal/strconv.uint64pow10" = some 6 := by kernel_rfl
theorem tTa : (Tryz.prog.globals[6]?).map (·.type) = some 301 := by kernel_rfl
theorem tab_of {P : Program} {W : World} {name : String} {k : IntKind} {zs : List Int} {t e : TypeId} {n : Nat} {cs : Array Value} {fuel : Nat} {p : List MemPlace}
    (ht : P.underlying t = some (.array n e)) (he : P.underlying e = some (.int k)) (hce : P.cellsOf e = 1) (hct : P.cellsOf t = n)
    (hv : W.var? P name = some cs) (hd : DataW.trod (fun _ => ()) P W 0 (fun _ => true) false fuel t cs.toList = some (Lib.tabData k zs, p)) : Lib.TabIs P W name k zs := by
  unfold Lib.TabIs
  rw [hv, ← Lib.cells_of_tab ht he hce hct hd]
theorem laid_gives {W : World} (h : laidMet Tryz.prog [("math/bits.deBruijn32tab", Rows.laid_math_bits_deBruijn32tab), ("math/bits.deBruijn64tab", Rows.laid_math_bits_deBruijn64tab), ("internal/strconv.uint64pow10", Lib.tabData .u64 Lib.pow10Tab), ("loop.example/g00172/impl.modeWords", Rows.laid_loop_example_g00172_impl_modeWords)] W ∧ handlesMet Tryz.prog [("errors.errorType", Rows.laid_errors_errorType)] W) : TaG W ∧ ErrG W := by
  refine ⟨?_, Te.errG_of h.2⟩
  obtain ⟨ps, ⟨_, _, _, _, _, _, _, _, _, _, ⟨_, _, _, _, _, _, _, _, _, _, ⟨g1, t1, cs1, f1, p1, q1, hg1, ht1, hv1, hd1, _, _⟩, _⟩, _⟩, _, _⟩ := h.1
  obtain rfl := Option.some.inj (gTa.symm.trans hg1)
  obtain rfl := Option.some.inj (tTa.symm.trans ht1)
  exact tab_of Tryz.underlying301 Tryz.underlying203 (by kernel_rfl) (by kernel_rfl) hv1 hd1
theorem cellLtTa {W : World} (h : TaG W) : 6 < W.heap.size :=
  cellLt (h.cell gTa 0 (by decide))
end Go.Proofs.YtgidcncmicmggamGreatDoor.Cm
/- Texts cut at a byte: what the parts are. No statement is proved here. -/
namespace Go.Proofs.YtgidcncmicmggamGreatDoor

/-- The parts of a list of bytes between the bytes c. -/
def cutL (c : UInt8) : List UInt8 → List (List UInt8)
  | [] => [[]]
  | x :: xs => if x = c then [] :: cutL c xs else match cutL c xs with
    | [] => [[x]]
    | y :: ys => (x :: y) :: ys
theorem cut_none {c : UInt8} : ∀ {l : List UInt8}, ¬ c ∈ l → cutL c l = [l]
  | [], _ => rfl
  | x :: xs, h => by
    have h1 : ¬ x = c := fun e => h (by rw [e]; exact List.mem_cons_self)
    have h2 : ¬ c ∈ xs := fun e => h (List.mem_cons_of_mem _ e)
    simp only [cutL, if_neg h1, cut_none h2]
theorem cut_at {c : UInt8} (q : List UInt8) : ∀ {p : List UInt8}, ¬ c ∈ p → cutL c (p ++ c :: q) = p :: cutL c q
  | [], _ => by simp [cutL]
  | x :: xs, h => by
    have h1 : ¬ x = c := fun e => h (by rw [e]; exact List.mem_cons_self)
    have h2 : ¬ c ∈ xs := fun e => h (List.mem_cons_of_mem _ e)
    simp only [List.cons_append, cutL, if_neg h1, cut_at q h2]
theorem cut_len (c : UInt8) : ∀ l : List UInt8, 1 ≤ (cutL c l).length ∧ (cutL c l).length ≤ l.length + 1
  | [] => by simp [cutL]
  | x :: xs => by
    have ih := cut_len c xs
    by_cases h : x = c
    · simp only [cutL, if_pos h, List.length_cons]; omega
    · simp only [cutL, if_neg h]
      cases e : cutL c xs with
      | nil => simp
      | cons y ys => rw [e] at ih; simp only [List.length_cons] at ih ⊢; omega
theorem cut_size (c : UInt8) : ∀ (l y : List UInt8), y ∈ cutL c l → y.length ≤ l.length
  | [], y, h => by simp [cutL] at h; rw [h]; simp
  | x :: xs, y, h => by
    by_cases e : x = c
    · simp only [cutL, if_pos e, List.mem_cons] at h
      rcases h with rfl | h
      · simp
      · have := cut_size c xs y h; simp only [List.length_cons]; omega
    · simp only [cutL, if_neg e] at h
      cases e2 : cutL c xs with
      | nil => rw [e2] at h; simp at h; rw [h]; simp
      | cons z zs =>
        rw [e2] at h
        have hz := cut_size c xs z (by rw [e2]; exact List.mem_cons_self)
        rcases List.mem_cons.1 h with rfl | h
        · simp only [List.length_cons]; omega
        · have := cut_size c xs y (by rw [e2]; exact List.mem_cons_of_mem _ h); simp only [List.length_cons]; omega
/-- The bytes from fr up to k. -/
def sg (s : ByteArray) (fr k : Nat) : List UInt8 := (s.data.toList.drop fr).take (k - fr)
theorem sg_byte (s : ByteArray) (k : Nat) (h : k < s.size) : s.data.toList[k]'(by rw [size_eq]; exact h) = s[k] := rfl
theorem sg_snoc (s : ByteArray) (fr k : Nat) (h1 : fr ≤ k) (h : k < s.size) : sg s fr (k + 1) = sg s fr k ++ [s[k]] := by
  unfold sg
  have hl : k - fr < (s.data.toList.drop fr).length := by rw [List.length_drop, size_eq]; omega
  have e : k + 1 - fr = (k - fr) + 1 := by omega
  rw [e, List.take_succ_eq_append_getElem hl, List.getElem_drop]
  congr 2
  rw [← sg_byte s k h]
  congr 1
  omega
def cutFrom (c : UInt8) (s : ByteArray) (k : Nat) : List ByteArray := (cutL c (s.data.toList.drop k)).map mkB
def cutOf (c : UInt8) (s : ByteArray) : List ByteArray := cutFrom c s 0
theorem mkB_sg (s : ByteArray) (fr k : Nat) : mkB (sg s fr k) = s.extract fr k := by
  apply bytes_inj2
  rw [ByteArray.toList_eq, ByteArray.toList_eq, extract_data, mkB_data]
  rfl
theorem cutFrom_last (c : UInt8) (s : ByteArray) (fr : Nat) (h : ¬ c ∈ sg s fr s.size) : cutFrom c s fr = [s.extract fr s.size] := by
  have e : s.data.toList.drop fr = sg s fr s.size := by
    unfold sg
    rw [List.take_of_length_le (by rw [List.length_drop, size_eq]; exact Nat.le_refl _)]
  unfold cutFrom
  rw [e, cut_none h, ← mkB_sg]
  rfl
theorem cutFrom_at (c : UInt8) (s : ByteArray) (fr k : Nat) (h1 : fr ≤ k) (hk : k < s.size) (h : ¬ c ∈ sg s fr k) (hc : s[k] = c) : cutFrom c s fr = s.extract fr k :: cutFrom c s (k + 1) := by
  have hl : k - fr < (s.data.toList.drop fr).length := by rw [List.length_drop, size_eq]; omega
  have e : s.data.toList.drop fr = sg s fr k ++ c :: s.data.toList.drop (k + 1) := by
    conv => lhs; rw [← List.take_append_drop (k - fr) (s.data.toList.drop fr), List.drop_eq_getElem_cons hl]
    unfold sg
    rw [List.drop_drop]
    congr 2
    · rw [List.getElem_drop, ← hc, ← sg_byte s k hk]
      congr 1
      omega
    · congr 1; omega
  unfold cutFrom
  rw [e, cut_at _ h, List.map_cons, mkB_sg]
theorem cutFrom_len (c : UInt8) (s : ByteArray) (fr : Nat) : 1 ≤ (cutFrom c s fr).length ∧ (cutFrom c s fr).length ≤ s.size - fr + 1 := by
  have := cut_len c (s.data.toList.drop fr)
  unfold cutFrom
  rw [List.length_map]
  rw [List.length_drop, size_eq] at this
  exact this
theorem cutFrom_size (c : UInt8) (s : ByteArray) (fr : Nat) : ∀ x ∈ cutFrom c s fr, x.size ≤ s.size := by
  intro x hx
  obtain ⟨y, hy, rfl⟩ := List.mem_map.1 hx
  have := cut_size c _ y hy
  rw [List.length_drop, size_eq] at this
  rw [← size_eq, mkB_data]
  omega
/-- Where the first byte c is looked for from fr on. -/
theorem idx_none {c : UInt8} {s : ByteArray} {fr : Nat} (h : Lib.indexByte (s.data.toList.drop fr) c < 0) : ¬ c ∈ sg s fr s.size := by
  intro e
  have e2 : s.data.toList.drop fr = sg s fr s.size := by
    unfold sg
    rw [List.take_of_length_le (by rw [List.length_drop, size_eq]; exact Nat.le_refl _)]
  rw [← e2] at e
  have := (indexByte_mem _ c).2 e
  omega
end Go.Proofs.YtgidcncmicmggamGreatDoor
/- Fields of a line: what is ahead of the first blank and behind it; the lines of a text. No statement is proved here. -/
namespace Go.Proofs.YtgidcncmicmggamGreatDoor.Te

/-- What is ahead of the first blank, and what is behind it. -/
def bef (l : List UInt8) : List UInt8 := l.takeWhile (fun c => c != 32)
def aft (l : List UInt8) : List UInt8 := (l.dropWhile (fun c => c != 32)).drop 1
theorem bef_app (q : List UInt8) : ∀ {p : List UInt8}, ¬ (32 : UInt8) ∈ p → bef (p ++ 32 :: q) = p ∧ aft (p ++ 32 :: q) = q
  | [], _ => by simp [bef, aft]
  | x :: xs, h => by
    have h1 : ¬ x = 32 := fun e => h (by rw [e]; exact List.mem_cons_self)
    have ih := bef_app q (p := xs) (fun e => h (List.mem_cons_of_mem _ e))
    simp only [bef, aft] at ih ⊢
    simp only [List.cons_append, List.takeWhile_cons, List.dropWhile_cons, bne_iff_ne, ne_eq, h1, not_false_eq_true, if_true]
    exact ⟨by rw [ih.1], ih.2⟩
theorem bef_no : ∀ {p : List UInt8}, ¬ (32 : UInt8) ∈ p → bef p = p ∧ aft p = []
  | [], _ => by simp [bef, aft]
  | x :: xs, h => by
    have h1 : ¬ x = 32 := fun e => h (by rw [e]; exact List.mem_cons_self)
    have ih := bef_no (p := xs) (fun e => h (List.mem_cons_of_mem _ e))
    simp only [bef, aft] at ih ⊢
    simp only [List.takeWhile_cons, List.dropWhile_cons, bne_iff_ne, ne_eq, h1, not_false_eq_true, if_true]
    exact ⟨by rw [ih.1], ih.2⟩
/-- A line without the line feed that it may end with. -/
def trimL (l : List UInt8) : List UInt8 := if l.getLast? = some 10 then l.dropLast else l
theorem trim_snoc (l : List UInt8) : trimL (l ++ [10]) = l := by simp [trimL]
theorem cut_cons {c : UInt8} : ∀ {l p : List UInt8} {t : List (List UInt8)}, cutL c l = p :: t → ¬ c ∈ p ∧ ((t = [] ∧ l = p) ∨ ∃ q, l = p ++ c :: q ∧ cutL c q = t)
  | [], p, t, h => by
    simp only [cutL, List.cons.injEq] at h
    obtain ⟨rfl, rfl⟩ := h
    exact ⟨by simp, .inl ⟨rfl, rfl⟩⟩
  | x :: xs, p, t, h => by
    by_cases e : x = c
    · simp only [cutL, if_pos e, List.cons.injEq] at h
      obtain ⟨rfl, rfl⟩ := h
      exact ⟨by simp, .inr ⟨xs, by rw [e]; rfl, rfl⟩⟩
    · simp only [cutL, if_neg e] at h
      cases e2 : cutL c xs with
      | nil => have := (cut_len c xs).1; rw [e2] at this; simp at this
      | cons y ys =>
        rw [e2] at h
        simp only [List.cons.injEq] at h
        obtain ⟨rfl, rfl⟩ := h
        obtain ⟨h1, h2⟩ := cut_cons e2
        refine ⟨fun hm => ?_, ?_⟩
        · rcases List.mem_cons.1 hm with hm | hm
          · exact e hm.symm
          · exact h1 hm
        · rcases h2 with ⟨h3, h4⟩ | ⟨q, h3, h4⟩
          · exact .inl ⟨h3, by rw [h4]⟩
          · exact .inr ⟨q, by rw [h3]; rfl, h4⟩
theorem cut3 {c : UInt8} {l p q r : List UInt8} (h : cutL c l = [p, q, r]) : l = p ++ c :: (q ++ c :: r) ∧ ¬ c ∈ p ∧ ¬ c ∈ q ∧ ¬ c ∈ r := by
  obtain ⟨h1, h2⟩ := cut_cons h
  rcases h2 with ⟨h3, _⟩ | ⟨l1, rfl, h4⟩
  · cases h3
  obtain ⟨h5, h6⟩ := cut_cons h4
  rcases h6 with ⟨h7, _⟩ | ⟨l2, rfl, h8⟩
  · cases h7
  obtain ⟨h9, h10⟩ := cut_cons h8
  rcases h10 with ⟨_, rfl⟩ | ⟨l3, _, h11⟩
  · exact ⟨rfl, h1, h5, h9⟩
  · have := (cut_len c l3).1; rw [h11] at this; simp at this
theorem last_snoc {x : List UInt8} (h : x.getLast? = some 10) : x = x.dropLast ++ [10] := by
  cases x with
  | nil => simp at h
  | cons a l =>
    rw [List.getLast?_eq_some_getLast (by simp)] at h
    have e := Option.some.inj h
    have k := List.dropLast_concat_getLast (l := a :: l) (by simp)
    rw [e] at k
    exact k.symm
theorem spl_join : ∀ l : List UInt8, (spl l).flatten = l
  | [] => rfl
  | c :: l => by
    have ih := spl_join l
    by_cases e : c = 10
    · simp only [spl, if_pos e, List.flatten_cons, ih]; simp
    · simp only [spl, if_neg e]
      cases e2 : spl l with
      | nil => rw [e2] at ih; simp at ih; simp [← ih]
      | cons x xs => rw [e2] at ih; simp only [List.flatten_cons] at ih ⊢; rw [List.cons_append, ih]
end Go.Proofs.YtgidcncmicmggamGreatDoor.Te
/- The contracts of isNote and l6Note. No statement is proved here. -/
namespace Go.Proofs.YtgidcncmicmggamGreatDoor
open Go.ChangeShapes Go.WideShapes Go.ChangeAt Go.RowKit

/-- A byte of a note; what a note is. -/
def ntB (c : UInt8) : Prop := 32 ≤ c.toNat ∧ c.toNat ≤ 126
def nt (s : ByteArray) : Bool := decide (s.size ≤ 60 ∧ ∀ k, (h : k < s.size) → 32 ≤ s[k].toNat ∧ s[k].toNat ≤ 126)
theorem nt_long {s : ByteArray} (h : 60 < s.size) : nt s = false := decide_eq_false (fun k => by have := k.1; omega)
theorem nt_byte {s : ByteArray} {k : Nat} (hk : k < s.size) (h : ¬ ntB s[k]) : nt s = false := decide_eq_false (fun q => h (q.2 k hk))
theorem nt_ok {s : ByteArray} (h1 : ¬ 60 < s.size) (h : ∀ k, (h : k < s.size) → ntB s[k]) : nt s = true := decide_eq_true ⟨by omega, h⟩
theorem nt_size {s : ByteArray} (h : nt s = true) : s.size ≤ 60 := (of_decide_eq_true h).1
theorem ret_bool' {b c : Bool} (h : b = c) : Ending.returned (.bool b) = .returned (.bool c) := by rw [h]
set_option maxHeartbeats 1000000 in
theorem l6Note (s : ByteArray) (w : World) :
    Calls Tryz.prog 97 #[.string s] w fun e w' => e = .returned (.bool (nt s)) ∧ w' = w := by
  by_cases h2 : 60 < s.size
  · have HR : Hid (nt s = false) := nt_long h2
    have q2 : (60 : Int) < (s.size : Int) := by omega
    clear h2
    go_enter Tryz.func97, Tryz.ntmps97
    go_wp2
    go_ret
    exact ⟨ret_bool' HR.out.symm, rfl⟩
  have q2 : ¬ (60 : Int) < (s.size : Int) := by omega
  have HB : ∀ k, (h : k < s.size) → ¬ ntB s[k] → Hid (nt s = false) := fun k hk h => nt_byte hk h
  have HG : (∀ k, (h : k < s.size) → ntB s[k]) → Hid (nt s = true) := fun h => nt_ok h2 h
  clear h2
  go_enter Tryz.func97, Tryz.ntmps97
  go_wp2
  go_loop [3] (fun i => ∃ k : Nat, k ≤ s.size ∧ i = .int .i64 k ∧ Hid (∀ j, (h : j < s.size) → j < k → ntB s[j])) (fun i => s.size - (intOf i).toNat)
  case atStart => exact ⟨0, by omega, rfl, fun j _ hj => by omega⟩
  case round =>
    obtain ⟨k, hk, rfl, hn⟩ := hrel
    by_cases hlt : k < s.size
    · have hkI : (k : Int) < (s.size : Int) := by omega
      have hb := HB k hlt
      have hgo : ntB s[k] → Hid (∀ j, (h : j < s.size) → j < k + 1 → ntB s[j]) := fun e j hj h1 => by
        by_cases ej : j = k
        · subst ej; exact e
        · exact hn.out j hj (by omega)
      clear HB HG hn
      by_cases e1 : (s[k].toNat : Int) < 32
      · have HR := hb (fun q => by have := q.1; omega)
        clear hb hgo
        go_wp2
        go_ret
        exact ⟨ret_bool' HR.out.symm, rfl⟩
      by_cases e2 : (126 : Int) < (s[k].toNat : Int)
      · have HR := hb (fun q => by have := q.2; omega)
        clear hb hgo
        go_wp2
        go_ret
        exact ⟨ret_bool' HR.out.symm, rfl⟩
      have HN := hgo ⟨by omega, by omega⟩
      clear hb hgo
      go_wp2
      go_round
      case rel => exact ⟨k + 1, by omega, by go_num, HN⟩
      case measure => simp [intOf]; omega
    · have hkI : ¬ (k : Int) < (s.size : Int) := by omega
      have HR := HG (fun j hj => hn.out j hj (by omega))
      clear HB HG hn
      go_wp2
      go_ret
      exact ⟨ret_bool' HR.out.symm, rfl⟩
set_option maxHeartbeats 1000000 in
theorem isNote (s : ByteArray) (w : World) :
    Calls Tryz.prog 192 #[.string s] w fun e w' => e = .returned (.bool (nt s)) ∧ w' = w := by
  by_cases h2 : 60 < s.size
  · have HR : Hid (nt s = false) := nt_long h2
    have q2 : (60 : Int) < (s.size : Int) := by omega
    clear h2
    go_enter Tryz.func192, Tryz.ntmps192
    go_wp2
    go_ret
    exact ⟨ret_bool' HR.out.symm, rfl⟩
  have q2 : ¬ (60 : Int) < (s.size : Int) := by omega
  have HB : ∀ k, (h : k < s.size) → ¬ ntB s[k] → Hid (nt s = false) := fun k hk h => nt_byte hk h
  have HG : (∀ k, (h : k < s.size) → ntB s[k]) → Hid (nt s = true) := fun h => nt_ok h2 h
  clear h2
  go_enter Tryz.func192, Tryz.ntmps192
  go_wp2
  go_loop [9] (fun i => ∃ k : Nat, k ≤ s.size ∧ i = .int .i64 k ∧ Hid (∀ j, (h : j < s.size) → j < k → ntB s[j])) (fun i => s.size - (intOf i).toNat)
  case atStart => exact ⟨0, by omega, rfl, fun j _ hj => by omega⟩
  case round =>
    obtain ⟨k, hk, rfl, hn⟩ := hrel
    by_cases hlt : k < s.size
    · have hkI : (k : Int) < (s.size : Int) := by omega
      have hb := HB k hlt
      have hgo : ntB s[k] → Hid (∀ j, (h : j < s.size) → j < k + 1 → ntB s[j]) := fun e j hj h1 => by
        by_cases ej : j = k
        · subst ej; exact e
        · exact hn.out j hj (by omega)
      clear HB HG hn
      by_cases e1 : (s[k].toNat : Int) < 32
      · have HR := hb (fun q => by have := q.1; omega)
        clear hb hgo
        go_wp2
        go_ret
        exact ⟨ret_bool' HR.out.symm, rfl⟩
      by_cases e2 : (126 : Int) < (s[k].toNat : Int)
      · have HR := hb (fun q => by have := q.2; omega)
        clear hb hgo
        go_wp2
        go_ret
        exact ⟨ret_bool' HR.out.symm, rfl⟩
      have HN := hgo ⟨by omega, by omega⟩
      clear hb hgo
      go_wp2
      go_round
      case rel => exact ⟨k + 1, by omega, by go_num, HN⟩
      case measure => simp [intOf]; omega
    · have hkI : ¬ (k : Int) < (s.size : Int) := by omega
      have HR := HG (fun j hj => hn.out j hj (by omega))
      clear HB HG hn
      go_wp2
      go_ret
      exact ⟨ret_bool' HR.out.symm, rfl⟩
end Go.Proofs.YtgidcncmicmggamGreatDoor
/- Contracts of the library that are laid at this program: Tryz.slices_Contains_string, Tryz.slices_Contains_string_empty. No statement is proved here. -/
namespace Go.Proofs
open Go.Shelf
def Tryz.lays110_ren : Go.Shelf.Ren := ⟨fun | 110 => 223 | 109 => 236 | n => n, fun | 31 => 22 | 9 => 9 | 4 => 4 | 3 => 3 | 0 => 0 | n => n, fun | n => n⟩
theorem Tryz.lays110 : Go.Proofs.Lays.n110 Tryz.prog Tryz.lays110_ren := {
  mixed := by kernel_rfl
  f109 := Tryz.func236.trans (congrArg some (by kernel_rfl))
  f110 := Tryz.func223.trans (congrArg some (by kernel_rfl))
  t0 := Tryz.underlying0
  a0 := Tryz.isAgg0
  z0 := Tryz.sizeOf0
  v0 := Tryz.zeroValue0
  t3 := Tryz.underlying3
  a3 := Tryz.isAgg3
  z3 := Tryz.sizeOf3
  v3 := Tryz.zeroValue3
  t4 := Tryz.underlying4
  a4 := Tryz.isAgg4
  z4 := Tryz.sizeOf4
  v4 := Tryz.zeroValue4
  t9 := Tryz.underlying9
  a9 := Tryz.isAgg9
  z9 := Tryz.sizeOf9
  v9 := Tryz.zeroValue9
  t31 := Tryz.underlying22
  a31 := Tryz.isAgg22
  z31 := Tryz.sizeOf22
  v31 := Tryz.zeroValue22 }
open Go.Lib in
theorem Tryz.slices_Contains_string (b off n c : Nat) (zs : List ByteArray) (x : ByteArray) (w : World) (hz : n ≤ zs.length) (hbig : n ≤ 9223372036854775807) (hc : ∀ j, j < zs.length → w.cell? ⟨b, off + j, none⟩ = some (.string (zs.getD j ByteArray.empty))) :
    Calls Tryz.prog 223 #[.slice (some ⟨b, off, none⟩) n c, .string x] w fun e w' => e = .returned (.bool (Lib.containsS (zs.take n) x)) ∧ w' = w := Any.slices_Contains_string Tryz.lays110 b off n c zs x w hz hbig hc
open Go.Lib in
theorem Tryz.slices_Contains_string_empty (a : Option Addr) (c : Nat) (x : ByteArray) (w : World) :
    Calls Tryz.prog 223 #[.slice a 0 c, .string x] w fun e w' => e = .returned (.bool false) ∧ w' = w := Any.slices_Contains_string_empty Tryz.lays110 a c x w
end Go.Proofs
/- The head of a commit: the contract of the program's headFault. No statement is proved here. -/
namespace Go.Proofs.YtgidcncmicmggamGreatDoor
open Go.ChangeShapes Go.WideShapes Go.ChangeAt Go.RowKit

/-- The parent at a place is the id of a commit, and no parent ahead of it. -/
def PaOk (ps : List ByteArray) (k : Nat) : Prop := isOf 3 (ps.getD k ByteArray.empty) = true ∧ ∀ j, j < k → ¬ ps.getD j ByteArray.empty = ps.getD k ByteArray.empty
/-- The fault of a commit's head; of a commit. -/
def hd (t : ByteArray) (ps : List ByteArray) : Int :=
  if isOf 2 t = true then (if 3 < ps.length then 2 else if (∀ k, k < ps.length → isOf 3 (ps.getD k ByteArray.empty) = true ∧ ∀ j, j < k → ¬ ps.getD j ByteArray.empty = ps.getD k ByteArray.empty) then 0 else 1) else 1
theorem hd_tree {t : ByteArray} {ps : List ByteArray} (h : isOf 2 t = false) : hd t ps = 1 := if_neg (by rw [h]; decide)
theorem hd_many {t : ByteArray} {ps : List ByteArray} (h : isOf 2 t = true) (h3 : 3 < ps.length) : hd t ps = 2 := by unfold hd; rw [if_pos h, if_pos h3]
theorem hd_bad {t : ByteArray} {ps : List ByteArray} (h : isOf 2 t = true) (h3 : ¬ 3 < ps.length) {k : Nat} (hk : k < ps.length) (hb : ¬ PaOk ps k) : hd t ps = 1 := by
  unfold hd
  rw [if_pos h, if_neg h3, if_neg (fun q => hb (q k hk))]
theorem hd_ok {t : ByteArray} {ps : List ByteArray} (h : isOf 2 t = true) (h3 : ¬ 3 < ps.length) (ha : ∀ k, k < ps.length → PaOk ps k) : hd t ps = 0 := by
  unfold hd
  rw [if_pos h, if_neg h3]
  exact if_pos (fun k hk => ha k hk)
def cmF (t : ByteArray) (ps : List ByteArray) (tm : Int) (n : ByteArray) : Int := if hd t ps = 0 then (if inB tm 0 1000000000 = true then (if nt n = true then 0 else 5) else 3) else hd t ps
theorem memTake {ps : List ByteArray} {k : Nat} {x : ByteArray} (hk : k ≤ ps.length) : x ∈ ps.take k ↔ ∃ j, j < k ∧ ps.getD j ByteArray.empty = x := by
  rw [List.mem_iff_getElem]
  constructor
  · rintro ⟨j, hj, e⟩
    have hj' : j < k := by simp at hj; omega
    refine ⟨j, hj', ?_⟩
    rw [getD_at ps j (by omega), ← e]
    simp
  · rintro ⟨j, hj, e⟩
    refine ⟨j, by simp; omega, ?_⟩
    rw [getD_at ps j (by omega)] at e
    rw [← e]
    simp
theorem containsF {ps : List ByteArray} {k : Nat} (hk : k ≤ ps.length) (h : isOf 3 (ps.getD k ByteArray.empty) = true) (hc : Lib.containsS (ps.take k) (ps.getD k ByteArray.empty) = false) : PaOk ps k :=
  ⟨h, fun j hj e => by
    have : Lib.containsS (ps.take k) (ps.getD k ByteArray.empty) = true := (Lib.containsS_iff _ _).2 ((memTake hk).2 ⟨j, hj, e⟩)
    rw [this] at hc; cases hc⟩
theorem containsT {ps : List ByteArray} {k : Nat} (hk : k ≤ ps.length) (hc : Lib.containsS (ps.take k) (ps.getD k ByteArray.empty) = true) : ¬ PaOk ps k := fun q => by
  obtain ⟨j, hj, e⟩ := (memTake hk).1 ((Lib.containsS_iff _ _).1 hc)
  exact q.2 j hj e

set_option maxRecDepth 20000 in
set_option maxHeartbeats 2000000 in
theorem headFault (t : ByteArray) (a : Option Addr) (c : Nat) (ps : List ByteArray) (w : World) (h : SS w a ps) (hc : ps.length ≤ c) (hn : ps.length ≤ 1048576) :
    Calls Tryz.prog 191 #[.string t, .slice a ps.length c] w fun e w' => e = .returned (.int .i64 (hd t ps)) ∧ ∃ n, w' = w.drewN n := by
  have hO2 := fun w => isIdOf 2 (by omega) t w
  cases hb : isOf 2 t with
  | false =>
    have HR : Hid (hd t ps = 1) := hd_tree hb
    rw [hb] at hO2
    clear hb
    go_enter Tryz.func191, Tryz.ntmps191
    go_wp2_with fail
    refine (hO2 _).mono ?_; rintro e w1 ⟨rfl, n, hw1⟩
    clear hO2
    go_wp2
    go_ret
    exact ⟨ret_int HR.out.symm, n, by first | rfl | exact hw1⟩
  | true =>
    rw [hb] at hO2
    by_cases h3 : 3 < ps.length
    · have HR : Hid (hd t ps = 2) := hd_many hb h3
      have q3 : (3 : Int) < (ps.length : Int) := by omega
      clear hb h3
      go_enter Tryz.func191, Tryz.ntmps191
      go_wp2_with fail
      refine (hO2 _).mono ?_; rintro e w1 ⟨rfl, n, hw1⟩
      clear hO2
      go_wp2
      go_ret
      exact ⟨ret_int HR.out.symm, n, by first | rfl | exact hw1⟩
    have q3 : ¬ (3 : Int) < (ps.length : Int) := by omega
    have HB : ∀ k, k < ps.length → ¬ PaOk ps k → Hid (hd t ps = 1) := fun k hk q => hd_bad hb h3 hk q
    have HG : (∀ k, k < ps.length → PaOk ps k) → Hid (hd t ps = 0) := fun q => hd_ok hb h3 q
    clear hb h3
    go_enter Tryz.func191, Tryz.ntmps191
    go_wp2_with fail
    refine (hO2 _).mono ?_; rintro e w1 ⟨rfl, n1, hw1⟩
    clear hO2
    go_wp2
    go_loopw [15] (fun i wr => ∃ k : Nat, k ≤ ps.length ∧ i = .int .i64 k ∧ Hid (∀ j, j < k → PaOk ps j) ∧ ∃ n, wr = w.drewN n) (fun i _ => ps.length - (intOf i).toNat)
    case atStart => exact ⟨0, Nat.zero_le _, rfl, fun j hj => absurd hj (Nat.not_lt_zero _), n1, by first | rfl | exact hw1⟩
    case round =>
      clear hw1
      obtain ⟨k, hk, rfl, hA, n, rfl⟩ := hrel
      by_cases hlt : k < ps.length
      · have qk : (k : Int) < (ps.length : Int) := by omega
        obtain ⟨g, off, e, hg, d0⟩ := h.2 k hlt
        subst e
        have hcells : ∀ j, j < ps.length → w.cell? ⟨g, off + j, none⟩ = some (.string (ps.getD j ByteArray.empty)) := fun j hj => by
          obtain ⟨g', off', e', _, f0⟩ := h.2 j hj
          simp only [Option.some.injEq, Addr.mk.injEq, and_true] at e'
          obtain ⟨rfl, rfl⟩ := e'
          exact f0
        have hb := HB k hlt
        have hgo : PaOk ps k → Hid (∀ j, j < k + 1 → PaOk ps j) := fun e j hj => by
          by_cases ej : j = k
          · rw [ej]; exact e
          · exact hA.out j (by omega)
        have hCF := containsF hk
        have hCT := containsT hk
        have hNo : isOf 3 (ps.getD k ByteArray.empty) = false → ¬ PaOk ps k := fun q r => by rw [r.1] at q; cases q
        have hC : ∀ m, Calls Tryz.prog 223 #[.slice (some ⟨g, off, none⟩) k c, .string (ps.getD k ByteArray.empty)] (w.drewN m) fun e w' => e = .returned (.bool (Lib.containsS (ps.take k) (ps.getD k ByteArray.empty))) ∧ w' = w.drewN m := fun m => Tryz.slices_Contains_string g off k c ps _ (w.drewN m) hk (by omega) hcells
        obtain ⟨x, hx⟩ : ∃ x, ps.getD k ByteArray.empty = x := ⟨_, rfl⟩
        rw [hx] at d0 hCF hCT hNo
        simp only [hx] at hC
        have hO := fun w => isIdOf 3 (by omega) x w
        obtain ⟨O, hOe⟩ : ∃ O, Lib.containsS (ps.take k) x = O := ⟨_, rfl⟩
        rw [hOe] at hCF hCT
        simp only [hOe] at hC
        have q0 : (0 : Int) ≤ (k : Int) := by omega
        have qc : (k : Int) ≤ (c : Int) := by omega
        clear hA HB HG hx hOe hcells h
        cases hi : isOf 3 x with
        | false =>
          have HR := hb (hNo hi)
          rw [hi] at hO
          clear hb hgo hCF hCT hNo hC hi
          go_wp2_with fail
          refine (hO _).mono ?_; rintro e w2 ⟨rfl, m, rfl⟩
          go_wp2
          go_ret
          exact ⟨ret_int HR.out.symm, _, by first | rfl | exact World.drewN_drewN _ _ _⟩
        | true =>
          rw [hi] at hO
          cases O with
          | true =>
            have HR := hb (hCT rfl)
            clear hb hgo hCF hCT hNo hi
            go_wp2_with fail
            refine (hO _).mono ?_; rintro e w2 ⟨rfl, m, rfl⟩
            rw [World.drewN_drewN]
            go_wp2_with fail
            refine (hC _).mono ?_; rintro e w3 ⟨rfl, rfl⟩
            go_wp2
            go_ret
            exact ⟨ret_int HR.out.symm, _, by first | rfl | exact World.drewN_drewN _ _ _⟩
          | false =>
            have HN := hgo (hCF hi rfl)
            clear hb hgo hCF hCT hNo hi
            go_wp2_with fail
            refine (hO _).mono ?_; rintro e w2 ⟨rfl, m, rfl⟩
            rw [World.drewN_drewN]
            go_wp2_with fail
            refine (hC _).mono ?_; rintro e w3 ⟨rfl, rfl⟩
            go_wp2
            go_roundw
            case rel => exact ⟨k + 1, by omega, by go_num, HN, _, rfl⟩
            case measure => first | (simp [intOf]; omega) | simp [intOf]
      · have qk : ¬ (k : Int) < (ps.length : Int) := by omega
        have HR := HG (fun j hj => hA.out j (by omega))
        clear HB HG hA
        go_wp2
        go_ret
        exact ⟨ret_int HR.out.symm, _, by first | rfl | exact World.drewN_drewN _ _ _⟩
end Go.Proofs.YtgidcncmicmggamGreatDoor
/- A builder that is told with two numbers: its block, and where its buffer may lie; what it lets stand. No statement is proved here. -/
set_option linter.unusedVariables false
namespace Go.Proofs.YtgidcncmicmggamGreatDoor
open Go.RowKit

/-- A builder at the block b whose buffer lies above B. -/
def BA (B b : Nat) (p : Value) (bs : List Value) (w : World) : Prop := b < B ∧ ∃ v, w.heap[b]? = some (.cells #[p, v] 211 (0, 0)) ∧ w.ownsRowF B 5 1 v bs.length bs
def BI (B b : Nat) (bs : List Value) (w : World) : Prop := BA B b (.pointer none) bs w ∨ BA B b (.pointer (some ⟨b, 0, none⟩)) bs w
/-- Every block below B but b is as it was. -/
structure Kb (B b : Nat) (w w' : World) : Prop where
  os : w'.os = w.os
  tape : w'.tape = w.tape
  output : w'.output = w.output
  size : w.heap.size ≤ w'.heap.size
  block : ∀ k, k < B → ¬ k = b → w'.heap[k]? = w.heap[k]?
theorem Kb.refl (B b : Nat) (w : World) : Kb B b w w := ⟨rfl, rfl, rfl, Nat.le_refl _, fun _ _ _ => rfl⟩
theorem Kb.trans {B b : Nat} {w w1 w2 : World} (h : Kb B b w w1) (k : Kb B b w1 w2) : Kb B b w w2 := ⟨k.os.trans h.os, k.tape.trans h.tape, k.output.trans h.output, Nat.le_trans h.size k.size, fun j hj hb => (k.block j hj hb).trans (h.block j hj hb)⟩
theorem Kb.of {B b : Nat} {w w1 : World} (h : Below B w w1) : Kb B b w w1 := ⟨h.os, h.tape, h.output, h.size, fun j hj _ => h.block j hj⟩
theorem Kb.below {B b : Nat} {w w1 : World} (h : Kb B b w w1) (hb : b ≤ B) : Below b w w1 := ⟨h.os, h.tape, h.output, h.size, fun j hj => h.block j (by omega) (by omega)⟩
theorem Kb.set (B b o : Nat) (w : World) (v : Value) : Kb B b w (w.setCell ⟨b, o, none⟩ v) := ⟨rfl, rfl, rfl, by simp [World.size_setCell], fun j _ hb => by simp [World.setCell, Array.getElem?_modify, Ne.symm hb]⟩
theorem own_down {w : World} {B B' : Nat} {e : TypeId} {v : Value} {n : Nat} {xs : List Value} (h : w.ownsRowF B e 1 v n xs) (hB : B' ≤ B) : w.ownsRowF B' e 1 v n xs := by
  refine ⟨h.1, ?_⟩
  rcases h.2 with hn | ⟨g, cap, cur, fz, hv, hb, rest⟩
  · exact .inl hn
  · exact .inr ⟨g, cap, cur, fz, hv, Nat.le_trans hB hb, rest⟩
theorem own_set {w : World} {B b o : Nat} {e : TypeId} {v u : Value} {n : Nat} {xs : List Value} (h : w.ownsRowF B e 1 v n xs) (hb : b < B) : (w.setCell ⟨b, o, none⟩ u).ownsRowF B e 1 v n xs := by
  refine ⟨h.1, ?_⟩
  rcases h.2 with hn | ⟨g, cap, cur, fz, hv, hg, hh, rest⟩
  · exact .inl hn
  · refine .inr ⟨g, cap, cur, fz, hv, hg, ?_, rest⟩
    have hne : ¬ b = g := by omega
    simp [World.setCell, Array.getElem?_modify, hne, hh]
theorem BA.toF {B b : Nat} {p : Value} {bs : List Value} {w : World} (h : BA B b p bs w) : Lib.BuilderAtF 211 5 b b p bs w := by
  obtain ⟨hb, v, hh, hown⟩ := h
  exact ⟨Nat.le_refl _, v, hh, own_down hown (by omega), fun e => by have := (hown.lt b e).1; omega⟩
theorem BA.put {B b : Nat} {p v v' : Value} {bs : List Value} {w : World} (hb : b < B) (hh : w.heap[b]? = some (.cells #[p, v] 211 (0, 0))) (hown : w.ownsRowF B 5 1 v' bs.length bs) : BA B b p bs (w.setCell ⟨b, 1, none⟩ v') :=
  ⟨hb, v', by simp [World.setCell, Array.getElem?_modify, hh], own_set hown hb⟩
theorem BA.used {B b : Nat} {p : Value} {bs : List Value} {w : World} (h : BA B b p bs w) (q : Value) : BA B b q bs (w.setCell ⟨b, 0, none⟩ q) := by
  obtain ⟨hb, v, hh, hown⟩ := h
  exact ⟨hb, v, by simp [World.setCell, Array.getElem?_modify, hh], own_set hown hb⟩
theorem copyCheckG (B b : Nat) (bs : List Value) (w : World) (h : BI B b bs w) :
    Calls Tryz.prog 234 #[.pointer (some ⟨b, 0, none⟩)] w fun e w' => e = .returned (.tuple #[]) ∧ (BA B b (.pointer (some ⟨b, 0, none⟩)) bs w' ∧ Kb B b w w') := by
  rcases h with h | h
  · have h' := h.toF
    refine (copyCheck_fresh b w h'.cell0 h'.shape h'.frozen0).mono ?_
    rintro e w' ⟨rfl, rfl⟩
    exact ⟨rfl, h.used _, Kb.set _ _ _ _ _⟩
  · refine (copyCheck_used b w h.toF.cell0).mono ?_
    rintro e w' ⟨rfl, rfl⟩
    exact ⟨rfl, h, Kb.refl _ _ _⟩
theorem Kb.grown {B b : Nat} {w w1 w2 : World} {row : Option Nat} (h : Kb B b w w1) (hg : w1.grownBy w2 row) (hB : B ≤ w1.heap.size) (hr : ∀ k, row = some k → B ≤ k) : Kb B b w w2 :=
  h.trans (Kb.of ((Below.refl B w1).grown hg hB hr))

set_option maxHeartbeats 2000000 in
set_option maxRecDepth 100000 in
theorem writeStringG (B b : Nat) (bs : List Value) (s : ByteArray) (w : World) (h : BI B b bs w) (hlen : bs.length + s.size ≤ 140737488355328) (hBw : B ≤ w.heap.size) :
    Calls Tryz.prog 220 #[.pointer (some ⟨b, 0, none⟩), .string s] w fun e w' => e = .returned (.tuple #[.int .i64 s.size, .nilIface]) ∧ (BA B b (.pointer (some ⟨b, 0, none⟩)) (bs ++ Lib.strCells s) w' ∧ Kb B b w w') := by
  obtain ⟨i0, hi, hz0, hz1, hz2⟩ := info_parts infoByte
  go_enter Tryz.func220, Tryz.ntmps220
  go_wp2_with (go_at_call 234; refine (copyCheckG B b bs _ h).mono ?_)
  rintro e w1 ⟨rfl, h1, hb1⟩
  obtain ⟨hB, v, hbk, hown⟩ := h1
  have hne : v.ownBlock ≠ some b := fun e => by have := (hown.lt b e).1; omega
  have c0 : w1.cell? ⟨b, 0, none⟩ = some (.pointer (some ⟨b, 0, none⟩)) := by rw [Lib.cell_of_heap hbk]; rfl
  have c1 : w1.cell? ⟨b, 1, none⟩ = some v := by rw [Lib.cell_of_heap hbk]; rfl
  go_wp2_with (at_builtin; refine Lib.wpList_append_own_stringF _ rfl _ _ 145 9 rfl B 5 i0 Tryz.underlying145 Tryz.underlying9 hi hz0 hz1 hz2 _ _ _ rfl hown s rfl ?c3 ?c4 ?c5 ?_)
  case c3 => unfold maxLen; omega
  case c4 => omega
  case c5 => have := hb1.size; omega
  intro v' w2 hown' hgrow _
  have hlt : b < w1.heap.size := by
    rcases Nat.lt_or_ge b w1.heap.size with h' | h'
    · exact h'
    · simp [Array.getElem?_eq_none h'] at hbk
  have hb2 : w2.heap[b]? = some (.cells #[.pointer (some ⟨b, 0, none⟩), v] 211 (0, 0)) := by
    rw [hgrow.block b hlt (fun e => hne e.symm)]
    exact hbk
  have d0 : w2.cell? ⟨b, 0, none⟩ = some (.pointer (some ⟨b, 0, none⟩)) := by rw [Lib.cell_of_heap hb2]; rfl
  have d1 : w2.cell? ⟨b, 1, none⟩ = some v := by rw [Lib.cell_of_heap hb2]; rfl
  have f1 : w2.frozen? ⟨b, 1, none⟩ = false := Lib.frozen_of_heap hb2 1
  obtain ⟨ao, n', cap, rfl⟩ : ∃ ao n' cap, v' = .slice ao n' cap := by
    rcases hown'.2 with ⟨hv, _⟩ | ⟨g, cap, cur, fz, hv, _⟩
    · exact ⟨_, _, _, hv⟩
    · exact ⟨_, _, _, hv⟩
  go_wp2
  go_ret2
  refine ⟨rfl, ?_, ?_⟩
  · exact BA.put hB hb2 (bs := bs ++ Lib.strCells s) (by simpa [Lib.strCells_length] using hown')
  · exact (hb1.grown hgrow (by have := hb1.size; omega) (fun k hk => (hown.lt k hk).1)).trans (Kb.set _ _ _ _ _)

set_option maxHeartbeats 2000000 in
set_option maxRecDepth 100000 in
theorem writeByteG (B b : Nat) (bs : List Value) (c : Int) (w : World) (h : BI B b bs w) (hlen : bs.length + 1 ≤ 140737488355328) (hBw : B ≤ w.heap.size) :
    Calls Tryz.prog 222 #[.pointer (some ⟨b, 0, none⟩), .int .u8 c] w fun e w' => e = .returned .nilIface ∧ (BA B b (.pointer (some ⟨b, 0, none⟩)) (bs ++ [.int .u8 c]) w' ∧ Kb B b w w') := by
  obtain ⟨i0, hi, hz0, hz1, hz2⟩ := info_parts infoByte
  go_enter Tryz.func222, Tryz.ntmps222
  go_wp2_with (go_at_call 234; refine (copyCheckG B b bs _ h).mono ?_)
  rintro e w1 ⟨rfl, h1, hb1⟩
  obtain ⟨hB, v, hbk, hown⟩ := h1
  have hne : v.ownBlock ≠ some b := fun e => by have := (hown.lt b e).1; omega
  have c0 : w1.cell? ⟨b, 0, none⟩ = some (.pointer (some ⟨b, 0, none⟩)) := by rw [Lib.cell_of_heap hbk]; rfl
  have c1 : w1.cell? ⟨b, 1, none⟩ = some v := by rw [Lib.cell_of_heap hbk]; rfl
  have hownA : ∀ o, (w1.alloc o).ownsRowF B 5 1 v bs.length bs := fun o => hown.kept (World.grownBy_alloc w1 o none) (by cases hv : v.ownBlock <;> simp)
  go_wp2_with (at_builtin; refine wpList_append_oneF rfl _ _ 145 rfl B 5 i0 Tryz.underlying145 hi hz0 hz1 hz2 _ _ _ rfl (hownA _) ⟨w1.heap.size, 0, none⟩ 1 (.int .u8 c) rfl ?c1 ?c2 ?c3 ?c4 ?c5 ?_)
  case c1 =>
    intro j u hj
    match j, hj with
    | 0, hj => simp at hj; subst hj; simp [Addr.add]
  case c2 => intro u hu; simp at hu; subst hu; rfl
  case c3 => unfold maxLen; omega
  case c4 => omega
  case c5 => have := hb1.size; simp; omega
  intro v' w2 hown' hgrow
  have hlt : b < w1.heap.size := by
    rcases Nat.lt_or_ge b w1.heap.size with h' | h'
    · exact h'
    · simp [Array.getElem?_eq_none h'] at hbk
  have hb2 : w2.heap[b]? = some (.cells #[.pointer (some ⟨b, 0, none⟩), v] 211 (0, 0)) := by
    rw [hgrow.block b (by simp; omega) (fun e => hne e.symm), Lib.alloc_old w1 _ b hlt]
    exact hbk
  have d0 : w2.cell? ⟨b, 0, none⟩ = some (.pointer (some ⟨b, 0, none⟩)) := by rw [Lib.cell_of_heap hb2]; rfl
  have d1 : w2.cell? ⟨b, 1, none⟩ = some v := by rw [Lib.cell_of_heap hb2]; rfl
  have f1 : w2.frozen? ⟨b, 1, none⟩ = false := Lib.frozen_of_heap hb2 1
  obtain ⟨ao, n', cap, rfl⟩ : ∃ ao n' cap, v' = .slice ao n' cap := by
    rcases hown'.2 with ⟨hv, _⟩ | ⟨g, cap, cur, fz, hv, _⟩
    · exact ⟨_, _, _, hv⟩
    · exact ⟨_, _, _, hv⟩
  go_wp2
  go_ret
  refine ⟨rfl, ?_, ?_⟩
  · exact BA.put hB hb2 (bs := bs ++ [.int .u8 c]) (by simpa using hown')
  · exact ((hb1.trans (Kb.of ((Below.refl B w1).alloc (by have := hb1.size; omega) _))).grown hgrow (by have := hb1.size; simp; omega) (fun k hk => (hown.lt k hk).1)).trans (Kb.set _ _ _ _ _)
end Go.Proofs.YtgidcncmicmggamGreatDoor
/- writeWords at a builder that is told with two numbers. No statement is proved here. -/
set_option linter.unusedVariables false
namespace Go.Proofs.YtgidcncmicmggamGreatDoor
open Go.ChangeShapes Go.WideShapes Go.ChangeAt Go.RowKit

theorem BA.below {B b : Nat} {p : Value} {bs : List Value} {w w' : World} (h : BA B b p bs w) (hb : Below w.heap.size w w') : BA B b p bs w' := by
  obtain ⟨h1, v, hh, hown⟩ := h
  have hlt : b < w.heap.size := by
    rcases Nat.lt_or_ge b w.heap.size with h' | h'
    · exact h'
    · simp [Array.getElem?_eq_none h'] at hh
  exact ⟨h1, v, (hb.block b hlt).trans hh, hown.kept (grownOfBelow hb none) (by cases hv : v.ownBlock <;> simp)⟩
theorem BI.below {B b : Nat} {bs : List Value} {w w' : World} (h : BI B b bs w) (hb : Below w.heap.size w w') : BI B b bs w' := h.elim (fun x => .inl (x.below hb)) (fun x => .inr (x.below hb))
/-- A builder that holds these bytes. -/
def TG (B b : Nat) (l : List UInt8) (w : World) : Prop := BI B b (Lib.byteCells l) w
theorem TG.toB {B b : Nat} {l : List UInt8} {w : World} (h : TG B b l w) : TB b b l w := h.elim (fun x => .inl x.toF) (fun x => .inr x.toF)
theorem TG.below {B b : Nat} {l : List UInt8} {w w' : World} (h : TG B b l w) (hb : Below w.heap.size w w') : TG B b l w' := BI.below h hb
set_option maxHeartbeats 1000000 in
theorem writeWordsG (B b g off c : Nat) (l : List UInt8) (ss : List ByteArray) (w : World) (hB : TG B b l w) (hbs : B ≤ w.heap.size) (hs : SS w (some ⟨g, off, none⟩) ss) (h2 : 2 ≤ ss.length) (hc : ss.length ≤ c) (hn : ss.length ≤ 1048576) (htot : tot ss ≤ 1048576) (hl : l.length ≤ 1000000000) :
    Calls Tryz.prog 190 #[.pointer (some ⟨b, 0, none⟩), .slice (some ⟨g, off, none⟩) ss.length c] w fun e w' => e = .returned (.tuple #[]) ∧ TG B b (l ++ wl ss) w' ∧ Kb B b w w' := by
  have hJ := joinC g off c ss w hs h2 hc hn htot
  have hsz : (jnB ss).size ≤ 3145728 := by
    have := jl_len ss (ss.length - 1) (by omega)
    have h3 := tot_take_le ss (ss.length - 1 + 1)
    show (jl ss (ss.length - 1)).toArray.size ≤ _
    simp
    omega
  have HW : Hid (wl ss = (jnB ss).data.toList ++ [10]) := rfl
  obtain ⟨J, hJe⟩ : ∃ J, jnB ss = J := ⟨_, rfl⟩
  rw [hJe] at hJ hsz HW
  clear hJe
  go_enter Tryz.func190, Tryz.ntmps190
  go_wp2_with fail
  refine hJ.mono ?_; rintro e w1 ⟨rfl, b1⟩
  have T1 := hB.below b1
  have s1 := b1.size
  have hWs := writeStringG B b _ J w1 T1 (by rw [Lib.byteCells_length]; omega) (by omega)
  clear hJ T1
  go_wp2_with fail
  refine hWs.mono ?_; rintro e w2 ⟨rfl, h2', b2⟩
  have s2 := b2.size
  have hWb := writeByteG B b _ 10 w2 (.inr h2') (by rw [List.length_append, Lib.byteCells_length, Lib.strCells_eq, Lib.byteCells_length]; simp; omega) (by omega)
  clear hWs
  go_wp2_with fail
  refine hWb.mono ?_; rintro e w3 ⟨rfl, h3', b3⟩
  have HT : Hid (TG B b (l ++ wl ss) w3) := by
    show BI _ _ _ _
    refine .inr ?_
    have e : Lib.byteCells (l ++ wl ss) = Lib.byteCells l ++ Lib.strCells J ++ [.int .u8 10] := by
      rw [HW.out, Lib.byteCells_append, Lib.byteCells_append, ← Lib.strCells_eq, List.append_assoc]
      rfl
    rw [e]
    exact h3'
  have HB : Hid (Kb B b w w3) := ((Kb.of (b1.mono hbs)).trans b2).trans b3
  clear hWb h2' h3' b1 b2 b3 hB
  go_wp2
  go_end0
  exact ⟨rfl, HT.out, HB.out⟩
end Go.Proofs.YtgidcncmicmggamGreatDoor
/- The contract of the specification's CommitFault. No statement is proved here. -/
namespace Go.Proofs.YtgidcncmicmggamGreatDoor
open Go.ChangeShapes Go.WideShapes Go.ChangeAt Go.RowKit

theorem cmF_head {t : ByteArray} {ps : List ByteArray} {tm : Int} {n : ByteArray} (h : ¬ hd t ps = 0) : cmF t ps tm n = hd t ps := if_neg h
theorem cmF_time {t : ByteArray} {ps : List ByteArray} {tm : Int} {n : ByteArray} (h : hd t ps = 0) (h2 : inB tm 0 1000000000 = false) : cmF t ps tm n = 3 := by unfold cmF; rw [if_pos h, if_neg (by rw [h2]; decide)]
theorem cmF_note {t : ByteArray} {ps : List ByteArray} {tm : Int} {n : ByteArray} (h : hd t ps = 0) (h2 : inB tm 0 1000000000 = true) (h3 : nt n = false) : cmF t ps tm n = 5 := by unfold cmF; rw [if_pos h, if_pos h2, if_neg (by rw [h3]; decide)]
theorem cmF_ok {t : ByteArray} {ps : List ByteArray} {tm : Int} {n : ByteArray} (h : hd t ps = 0) (h2 : inB tm 0 1000000000 = true) (h3 : nt n = true) : cmF t ps tm n = 0 := by unfold cmF; rw [if_pos h, if_pos h2, if_pos h3]

set_option maxRecDepth 20000 in
set_option maxHeartbeats 2000000 in
theorem specCommitFault (t : ByteArray) (a : Option Addr) (c : Nat) (ps : List ByteArray) (tm : Int) (no : ByteArray) (w : World) (h : SS w a ps) (hn : ps.length ≤ 1048576) :
    Calls Tryz.prog 58 #[.agg #[.string t, .slice a ps.length c, .int .i64 tm, .string no]] w fun e w' => e = .returned (.int .i64 (cmF t ps tm no)) ∧ Below w.heap.size w w' := by
  have hO2 := fun w => l6Is 2 (by omega) t w
  have hI := fun w => l1In tm 0 1000000000 w
  have hN := fun w => l6Note no w
  obtain ⟨W1, hW1⟩ : ∃ W, w.alloc (.cells #[.string t, .slice a ps.length c, .int .i64 tm, .string no] 24) = W := ⟨_, rfl⟩
  have b1 : Below w.heap.size w W1 := by rw [← hW1]; exact allocBelow _ _
  have r1 : Rf W1 w.heap.size [.string t, .slice a ps.length c, .int .i64 tm, .string no] := by rw [← hW1]; exact Rf.new _ _ _
  have c0 := r1.at_ 0 _ rfl
  have c1 := r1.at_ 1 _ rfl
  have c2 := r1.at_ 2 _ rfl
  have c3 := r1.at_ 3 _ rfl
  have h1 := h.below b1
  clear r1
  cases hb : isOf 2 t with
  | false =>
    have HR : Hid (cmF t ps tm no = 1) := by
      show _ = _
      rw [cmF_head (by rw [hd_tree hb]; decide), hd_tree hb]
    rw [hb] at hO2
    clear hb h h1
    go_enter Tryz.func58, Tryz.ntmps58
    go_wp2_with fail
    refine (hO2 _).mono ?_; rintro e w2 ⟨rfl, n, rfl⟩
    clear hO2
    go_wp2
    go_ret
    exact ⟨ret_int HR.out.symm, below_drewN' b1 _⟩
  | true =>
    rw [hb] at hO2
    by_cases h3 : 3 < ps.length
    · have HR : Hid (cmF t ps tm no = 2) := by
        show _ = _
        rw [cmF_head (by rw [hd_many hb h3]; decide), hd_many hb h3]
      have q3 : (3 : Int) < (ps.length : Int) := by omega
      clear hb h3 h h1
      go_enter Tryz.func58, Tryz.ntmps58
      go_wp2_with fail
      refine (hO2 _).mono ?_; rintro e w2 ⟨rfl, n, rfl⟩
      clear hO2
      go_wp2
      go_ret
      exact ⟨ret_int HR.out.symm, below_drewN' b1 _⟩
    have q3 : ¬ (3 : Int) < (ps.length : Int) := by omega
    have HB : ∀ k, k < ps.length → ¬ PaOk ps k → Hid (cmF t ps tm no = 1) := fun k hk q => by
      show _ = _
      rw [cmF_head (by rw [hd_bad hb h3 hk q]; decide), hd_bad hb h3 hk q]
    have HG : (∀ k, k < ps.length → PaOk ps k) → Hid (hd t ps = 0) := fun q => hd_ok hb h3 q
    clear hb h3
    go_enter Tryz.func58, Tryz.ntmps58
    go_wp2_with fail
    refine (hO2 _).mono ?_; rintro e w2 ⟨rfl, n1, rfl⟩
    clear hO2
    go_wp2
    go_loopw [3, 4] (fun i _k wr => ∃ k : Nat, k ≤ ps.length ∧ i = .int .i64 k ∧ Hid (∀ j, j < k → PaOk ps j) ∧ ∃ n, wr = W1.drewN n) (fun i _ _ => ps.length - (intOf i).toNat)
    case atStart => exact ⟨0, Nat.zero_le _, rfl, fun j hj => absurd hj (Nat.not_lt_zero _), n1, rfl⟩
    case round =>
      obtain ⟨k, hk, rfl, hA, n, rfl⟩ := hrel
      by_cases hlt : k < ps.length
      · have qk : (k : Int) < (ps.length : Int) := by omega
        obtain ⟨g, off, e, hg, d0⟩ := h1.2 k hlt
        subst e
        have hcells : ∀ j, j < ps.length → W1.cell? ⟨g, off + j, none⟩ = some (.string (ps.getD j ByteArray.empty)) := fun j hj => by
          obtain ⟨g', off', e', _, f0⟩ := h1.2 j hj
          simp only [Option.some.injEq, Addr.mk.injEq, and_true] at e'
          obtain ⟨rfl, rfl⟩ := e'
          exact f0
        have hb := HB k hlt
        have hgo : PaOk ps k → Hid (∀ j, j < k + 1 → PaOk ps j) := fun e j hj => by
          by_cases ej : j = k
          · rw [ej]; exact e
          · exact hA.out j (by omega)
        have hNo : isOf 3 (ps.getD k ByteArray.empty) = false → ¬ PaOk ps k := fun q r => by rw [r.1] at q; cases q
        have hYes : isOf 3 (ps.getD k ByteArray.empty) = true → (∀ j, j < k → ¬ ps.getD j ByteArray.empty = ps.getD k ByteArray.empty) → PaOk ps k := fun q r => ⟨q, r⟩
        have hDup : ∀ j, j < k → ps.getD j ByteArray.empty = ps.getD k ByteArray.empty → ¬ PaOk ps k := fun j hj e q => q.2 j hj e
        obtain ⟨x, hx⟩ : ∃ x, ps.getD k ByteArray.empty = x := ⟨_, rfl⟩
        rw [hx] at d0 hNo hYes
        simp only [hx] at hDup
        have hO := fun w => l6Is 3 (by omega) x w
        clear hA HB HG hx h1 h
        cases hi : isOf 3 x with
        | false =>
          have HR := hb (hNo hi)
          rw [hi] at hO
          clear hb hgo hNo hYes hDup hi hcells
          go_wp2_with fail
          refine (hO _).mono ?_; rintro e w2 ⟨rfl, m, rfl⟩
          go_wp2
          go_ret
          exact ⟨ret_int HR.out.symm, below_drewN' b1 _⟩
        | true =>
          rw [hi] at hO
          have HY : Hid ((∀ j, j < k → ¬ ps.getD j ByteArray.empty = x) → ∀ j, j < k + 1 → PaOk ps j) := fun r => (hgo (hYes hi r)).out
          have HD : Hid (∀ j, j < k → ps.getD j ByteArray.empty = x → cmF t ps tm no = 1) := fun j hj e => (hb (hDup j hj e)).out
          have HC : Hid (∀ j, j < ps.length → W1.cell? ⟨g, off + j, none⟩ = some (.string (ps.getD j ByteArray.empty))) := hcells
          clear hNo hi hYes hDup hb hgo hcells
          go_wp2_with fail
          refine (hO _).mono ?_; rintro e w2 ⟨rfl, m, rfl⟩
          clear hO
          rw [World.drewN_drewN]
          go_wp2_with fail
          go_loopw [4] (fun i wr => ∃ j : Nat, j ≤ k ∧ i = .int .i64 j ∧ Hid (∀ m, m < j → ¬ ps.getD m ByteArray.empty = x) ∧ ∃ n, wr = W1.drewN n) (fun i _ => k - (intOf i).toNat)
          case atStart => exact ⟨0, Nat.zero_le _, rfl, fun j hj => absurd hj (Nat.not_lt_zero _), _, rfl⟩
          case round =>
            obtain ⟨j, hj, rfl, hM, n2, rfl⟩ := hrel
            by_cases hjl : j < k
            · have qj : (j : Int) < (k : Int) := by omega
              have qjl : (j : Int) < (ps.length : Int) := by omega
              have dj := HC.out j (by omega)
              obtain ⟨y, hy⟩ : ∃ y, ps.getD j ByteArray.empty = y := ⟨_, rfl⟩
              rw [hy] at dj
              by_cases hyx : y = x
              · have HR : Hid (cmF t ps tm no = 1) := HD.out j hjl (hy.trans hyx)
                have hq : (y.toList == x.toList) = true := beq_bytes_true hyx
                clear HD HY HC hM hy hyx
                go_wp2
                go_quiet (fail)
                go_wp2
                go_ret
                exact ⟨ret_int HR.out.symm, below_drewN' (below_drewN' b1 _) _⟩
              · have hq : (y.toList == x.toList) = false := beq_bytes_false hyx
                have HM : Hid (∀ m, m < j + 1 → ¬ ps.getD m ByteArray.empty = x) := fun m hm e => by
                  by_cases em : m = j
                  · subst em; exact hyx (hy.symm.trans e)
                  · exact hM.out m (by omega) e
                clear HD HY HC hM hy hyx
                go_wp2
                go_quiet (fail)
                go_wp2
                go_roundw
                case rel => exact ⟨j + 1, by omega, by go_num, HM, _, by first | rfl | exact World.drewN_drewN _ _ _⟩
                case measure => first | (simp [intOf]; omega) | simp [intOf]
            · have qj : ¬ (j : Int) < (k : Int) := by omega
              have HN : Hid (∀ j, j < k + 1 → PaOk ps j) := HY.out (fun m hm => hM.out m (by omega))
              clear HD HY HC hM
              go_wp2
              go_roundw
              case rel => exact ⟨k + 1, by omega, by go_num, HN, _, rfl⟩
              case measure => first | (simp [intOf]; omega) | simp [intOf]
      · have qk : ¬ (k : Int) < (ps.length : Int) := by omega
        have H0 := HG (fun j hj => hA.out j (by omega))
        have HT : inB tm 0 1000000000 = false → Hid (cmF t ps tm no = 3) := fun q => cmF_time H0.out q
        have HNt : inB tm 0 1000000000 = true → nt no = false → Hid (cmF t ps tm no = 5) := fun q r => cmF_note H0.out q r
        have HOk : inB tm 0 1000000000 = true → nt no = true → Hid (cmF t ps tm no = 0) := fun q r => cmF_ok H0.out q r
        clear HB HG hA H0 h h1
        cases ht : inB tm 0 1000000000 with
        | false =>
          have HR := HT ht
          rw [ht] at hI
          clear HT HNt HOk ht hN
          go_wp2_with fail
          refine (hI _).mono ?_; rintro e w2 ⟨rfl, rfl⟩
          go_wp2
          go_ret
          exact ⟨ret_int HR.out.symm, below_drewN' b1 _⟩
        | true =>
          rw [ht] at hI
          have HNt := HNt ht
          have HOk := HOk ht
          clear HT ht
          cases hno : nt no with
          | false =>
            have HR := HNt hno
            rw [hno] at hN
            clear HNt HOk hno
            go_wp2_with fail
            refine (hI _).mono ?_; rintro e w2 ⟨rfl, rfl⟩
            go_wp2_with fail
            refine (hN _).mono ?_; rintro e w2 ⟨rfl, rfl⟩
            go_wp2
            go_ret
            exact ⟨ret_int HR.out.symm, below_drewN' b1 _⟩
          | true =>
            have HR := HOk hno
            rw [hno] at hN
            clear HNt HOk hno
            go_wp2_with fail
            refine (hI _).mono ?_; rintro e w2 ⟨rfl, rfl⟩
            go_wp2_with fail
            refine (hN _).mono ?_; rintro e w2 ⟨rfl, rfl⟩
            go_wp2
            go_ret
            exact ⟨ret_int HR.out.symm, below_drewN' b1 _⟩
end Go.Proofs.YtgidcncmicmggamGreatDoor
/- The contract of the program's writeCommit. No statement is proved here. -/
namespace Go.Proofs.YtgidcncmicmggamGreatDoor
open Go.ChangeShapes Go.WideShapes Go.ChangeAt Go.RowKit

def wTree : ByteArray := ⟨#[116, 114, 101, 101]⟩
def wPar : ByteArray := ⟨#[112, 97, 114, 101, 110, 116]⟩
def wTime : ByteArray := ⟨#[116, 105, 109, 101]⟩
def wNote : ByteArray := ⟨#[110, 111, 116, 101]⟩
/-- The text of a commit. -/
def cmP (t : ByteArray) (ps : List ByteArray) : List UInt8 := wl [wTree, t] ++ ps.flatMap (fun p => wl [wPar, p])
def cmL (t : ByteArray) (ps : List ByteArray) (tm : Int) (no : ByteArray) : List UInt8 := cmP t ps ++ wl [wTime, itB tm] ++ wl [wNote, no]
/-- What writeCommit answers. -/
def WC (b : Nat) (t : ByteArray) (ps : List ByteArray) (tm : Int) (no : ByteArray) (w : World) (e : Ending) (w' : World) : Prop :=
  Below b w w' ∧ ((cmF t ps tm no = 0 ∧ e = .returned .nilIface ∧ TB b b (cmL t ps tm no) w') ∨ (¬ cmF t ps tm no = 0 ∧ e = .returned (.iface 98 (.agg #[.int .i64 (cmF t ps tm no)]))))
theorem wc_fault {c d : Int} (h : c = d) : Ending.returned (.iface 98 (.agg #[.int .i64 c])) = .returned (.iface 98 (.agg #[.int .i64 d])) := by rw [h]
theorem inB_lo {tm : Int} (h : inB tm 0 1000000000 = true) : 0 ≤ tm ∧ tm ≤ 1000000000 := by
  unfold inB at h
  simp at h
  omega
theorem inB_out {tm : Int} (h : inB tm 0 1000000000 = false) : tm < 0 ∨ 1000000000 < tm := by
  unfold inB at h
  simp at h
  omega

set_option maxRecDepth 20000 in
set_option maxHeartbeats 2000000 in
theorem writeCommit_faults (b : Nat) (t : ByteArray) (a : Option Addr) (c : Nat) (ps : List ByteArray) (tm : Int) (no : ByteArray) (w : World) (hbw : b < w.heap.size) (h : SS w a ps) (hc : ps.length ≤ c) (hn : ps.length ≤ 1048576) (hf : ¬ cmF t ps tm no = 0) :
    Calls Tryz.prog 148 #[.pointer (some ⟨b, 0, none⟩), .agg #[.string t, .slice a ps.length c, .int .i64 tm, .string no]] w fun e w' => WC b t ps tm no w e w' := by
  obtain ⟨W1, hW1⟩ : ∃ W, w.alloc (.cells #[.string t, .slice a ps.length c, .int .i64 tm, .string no] 24) = W := ⟨_, rfl⟩
  have b1 : Below w.heap.size w W1 := by rw [← hW1]; exact allocBelow _ _
  have b1' : Below b w W1 := b1.mono (by omega)
  have r1 : Rf W1 w.heap.size [.string t, .slice a ps.length c, .int .i64 tm, .string no] := by rw [← hW1]; exact Rf.new _ _ _
  have c0 := r1.at_ 0 _ rfl
  have c1 := r1.at_ 1 _ rfl
  have c2 := r1.at_ 2 _ rfl
  have c3 := r1.at_ 3 _ rfl
  have h1 := h.below b1
  have hH := headFault t a c ps W1 h1 hc hn
  have hN := fun w => isNote no w
  clear r1 h1 h
  by_cases h0 : hd t ps = 0
  · rw [h0] at hH
    cases ht : inB tm 0 1000000000 with
    | false =>
      have HR : Hid (cmF t ps tm no = 3) := cmF_time h0 ht
      clear h0 hN
      rcases inB_out ht with q | q
      · clear ht
        go_enter Tryz.func148, Tryz.ntmps148
        go_wp2_with fail
        refine hH.mono ?_; rintro e w2 ⟨rfl, n, rfl⟩
        clear hH
        go_wp2
        go_ret
        exact ⟨below_drewN' b1' _, .inr ⟨hf, wc_fault HR.out.symm⟩⟩
      · have q2 : ¬ tm < 0 := by omega
        clear ht
        go_enter Tryz.func148, Tryz.ntmps148
        go_wp2_with fail
        refine hH.mono ?_; rintro e w2 ⟨rfl, n, rfl⟩
        clear hH
        go_wp2
        go_ret
        exact ⟨below_drewN' b1' _, .inr ⟨hf, wc_fault HR.out.symm⟩⟩
    | true =>
      obtain ⟨q1, q2⟩ := inB_lo ht
      have q3 : ¬ tm < 0 := by omega
      have q4 : ¬ 1000000000 < tm := by omega
      cases hno : nt no with
      | true => exact absurd (cmF_ok h0 ht hno) hf
      | false =>
        have HR : Hid (cmF t ps tm no = 5) := cmF_note h0 ht hno
        rw [hno] at hN
        clear ht h0 hno
        go_enter Tryz.func148, Tryz.ntmps148
        go_wp2_with fail
        refine hH.mono ?_; rintro e w2 ⟨rfl, n, rfl⟩
        clear hH
        go_wp2_with fail
        refine (hN _).mono ?_; rintro e w3 ⟨rfl, rfl⟩
        go_wp2
        go_ret
        exact ⟨below_drewN' b1' _, .inr ⟨hf, wc_fault HR.out.symm⟩⟩
  · have HR : Hid (cmF t ps tm no = hd t ps) := cmF_head h0
    obtain ⟨X, hX⟩ : ∃ X, hd t ps = X := ⟨_, rfl⟩
    rw [hX] at hH HR h0
    have qX : (X != 0) = true := ne_beq h0
    clear hX hN h0
    go_enter Tryz.func148, Tryz.ntmps148
    go_wp2_with fail
    refine hH.mono ?_; rintro e w2 ⟨rfl, n, rfl⟩
    clear hH
    go_wp2
    go_ret
    exact ⟨below_drewN' b1' _, .inr ⟨hf, wc_fault HR.out.symm⟩⟩
end Go.Proofs.YtgidcncmicmggamGreatDoor
/- The contract of the program's writeCommit where nothing is at fault. No statement is proved here. -/
namespace Go.Proofs.YtgidcncmicmggamGreatDoor
open Go.ChangeShapes Go.WideShapes Go.ChangeAt Go.RowKit

theorem ss2 (w : World) (x y : ByteArray) (hx : x.size ≤ 1048576) (hy : y.size ≤ 1048576) : SS (w.alloc (.cells #[.string x, .string y] 9)) (some ⟨w.heap.size, 0, none⟩) [x, y] := by
  refine ⟨?_, ?_⟩
  · intro k hk
    match k, hk with
    | 0, _ => show x.size ≤ _; omega
    | 1, _ => show y.size ≤ _; omega
  · intro k hk
    refine ⟨w.heap.size, 0, rfl, by simp, ?_⟩
    match k, hk with
    | 0, _ => exact Rs.new w #[.string x, .string y] _ 0 _ rfl
    | 1, _ => exact Rs.new w #[.string x, .string y] _ 1 _ rfl
/-- A line of two words is written. -/
theorem words2 (B b : Nat) (l : List UInt8) (x y : ByteArray) (w : World) (hT : TG B b l w) (hB : B ≤ w.heap.size) (hx : x.size ≤ 100) (hy : y.size ≤ 100) (hl : l.length ≤ 1000000) :
    Calls Tryz.prog 190 #[.pointer (some ⟨b, 0, none⟩), .slice (some ⟨w.heap.size, 0, none⟩) 2 2] (w.alloc (.cells #[.string x, .string y] 9)) fun e w' => e = .returned (.tuple #[]) ∧ TG B b (l ++ wl [x, y]) w' ∧ Kb B b w w' := by
  have hW := writeWordsG B b w.heap.size 0 2 l [x, y] (w.alloc (.cells #[.string x, .string y] 9)) (hT.below (allocBelow _ _)) (by have := (allocBelow w (.cells #[.string x, .string y] 9)).size; omega) (ss2 w x y (by omega) (by omega)) (by simp) (by simp) (by simp) (by simp [tot]; omega) (by omega)
  refine hW.mono ?_
  rintro e w' ⟨rfl, T, K⟩
  exact ⟨rfl, T, (Kb.of ((allocBelow w _).mono hB)).trans K⟩
theorem Kb.cell {B b k o : Nat} {w w' : World} {v : Value} (h : Kb B b w w') (hk : k < B) (hb : ¬ k = b) (hc : w.cell? ⟨k, o, none⟩ = some v) : w'.cell? ⟨k, o, none⟩ = some v := by
  unfold World.cell? at hc ⊢
  simp only [h.block k hk hb]
  exact hc
theorem hd_zero {t : ByteArray} {ps : List ByteArray} (h : hd t ps = 0) : isOf 2 t = true ∧ ps.length ≤ 3 ∧ ∀ k, k < ps.length → PaOk ps k := by
  cases hb : isOf 2 t with
  | false => rw [hd_tree hb] at h; omega
  | true =>
    by_cases h3 : 3 < ps.length
    · rw [hd_many hb h3] at h; omega
    · refine ⟨rfl, by omega, fun k hk => ?_⟩
      by_cases hp : PaOk ps k
      · exact hp
      · rw [hd_bad hb h3 hk hp] at h; omega
end Go.Proofs.YtgidcncmicmggamGreatDoor
/- writeCommit where nothing is at fault, walked. No statement is proved here. -/
namespace Go.Proofs.YtgidcncmicmggamGreatDoor
open Go.ChangeShapes Go.WideShapes Go.ChangeAt Go.RowKit

theorem wl2_len (x y : ByteArray) : (wl [x, y]).length = x.size + y.size + 2 := by
  unfold wl jnB
  show (jl [x, y] 1 ++ [10]).length = _
  simp [jl]
  have e1 : x.data.size = x.size := rfl
  have e2 : y.data.size = y.size := rfl
  omega
theorem cmP_take (t : ByteArray) (ps : List ByteArray) (k : Nat) (h : k < ps.length) : cmP t (ps.take (k + 1)) = cmP t (ps.take k) ++ wl [wPar, ps.getD k ByteArray.empty] := by
  unfold cmP
  have e : ps.take (k + 1) = ps.take k ++ [ps.getD k ByteArray.empty] := by
    rw [getD_at ps k h]
    simp
  rw [e, List.flatMap_append, ← List.append_assoc]
  simp
theorem cmP_len {t : ByteArray} {ps : List ByteArray} (ht : t.size = 5) (hp : ∀ k, k < ps.length → (ps.getD k ByteArray.empty).size = 5) : ∀ k, k ≤ ps.length → (cmP t (ps.take k)).length = 11 + 13 * k
  | 0, _ => by
    unfold cmP
    simp [wl2_len, ht]
    rfl
  | k + 1, h => by
    rw [cmP_take t ps k (by omega), List.length_append, cmP_len ht hp k (by omega), wl2_len, hp k (by omega)]
    have : wPar.size = 6 := rfl
    omega

set_option maxRecDepth 20000 in
set_option maxHeartbeats 2000000 in
theorem writeCommit_ok (b : Nat) (t : ByteArray) (a : Option Addr) (c : Nat) (ps : List ByteArray) (tm : Int) (no : ByteArray) (w : World) (hb : w.heap[b]? = some (.cells #[.pointer none, .slice none 0 0] 211 (0, 0))) (hbw : b < w.heap.size) (h : SSB b w a ps) (hc : ps.length ≤ c) (hT : TaG w) (hgB : 6 < b)
    (h0 : hd t ps = 0) (ht : inB tm 0 1000000000 = true) (hno : nt no = true) :
    Calls Tryz.prog 148 #[.pointer (some ⟨b, 0, none⟩), .agg #[.string t, .slice a ps.length c, .int .i64 tm, .string no]] w fun e w' => e = .returned .nilIface ∧ TB b b (cmL t ps tm no) w' ∧ Below b w w' := by
  obtain ⟨W1, hW1⟩ : ∃ W, w.alloc (.cells #[.string t, .slice a ps.length c, .int .i64 tm, .string no] 24) = W := ⟨_, rfl⟩
  have b1 : Below w.heap.size w W1 := by rw [← hW1]; exact allocBelow _ _
  have b1' : Below b w W1 := b1.mono (by omega)
  have z1 : W1.heap.size = w.heap.size + 1 := by rw [← hW1]; simp
  have Z1 : Hid (W1.heap.size = w.heap.size + 1) := z1
  have r1 : Rf W1 w.heap.size [.string t, .slice a ps.length c, .int .i64 tm, .string no] := by rw [← hW1]; exact Rf.new _ _ _
  have c0 := r1.at_ 0 _ rfl
  have c1 := r1.at_ 1 _ rfl
  have c2 := r1.at_ 2 _ rfl
  have c3 := r1.at_ 3 _ rfl
  have G1 : TG (w.heap.size + 1) b [] W1 := .inl ⟨by omega, .slice none 0 0, (b1.block b hbw).trans hb, World.ownsRowF_nil _ _ _ _⟩
  have S1 : SSB b W1 a ps := h.below b1
  have TA1 : TaG W1 := hT.below b1' hgB
  obtain ⟨x1, x2, x3⟩ := hd_zero h0
  obtain ⟨q1, q2⟩ := inB_lo ht
  have q3 : ¬ tm < 0 := by omega
  have q4 : ¬ 1000000000 < tm := by omega
  have y0 := Te.isOf_size x1
  have y1 := nt_size hno
  have y2 : ∀ k, k < ps.length → (ps.getD k ByteArray.empty).size = 5 := fun k hk => Te.isOf_size (x3 k hk).1
  have hH := headFault t a c ps W1 (S1.toSS (by omega)) hc (by omega)
  have hN := fun w => isNote no w
  rw [h0] at hH
  rw [hno] at hN
  clear r1 h0 ht hno x1 x3 b1 hT hb z1
  go_enter Tryz.func148, Tryz.ntmps148
  go_wp2_with fail
  refine hH.mono ?_; rintro e w2 ⟨rfl, n, rfl⟩
  clear hH hW1
  go_wp2_with fail
  refine (hN _).mono ?_; rintro e w3 ⟨rfl, rfl⟩
  clear hN
  go_wp2_with fail
  refine (words2 (w.heap.size + 1) b [] wTree t (W1.drewN n) G1 (Nat.le_of_eq Z1.out.symm) (by decide) (by omega) (by simp)).mono ?_
  rintro e w4 ⟨rfl, T4, K4'⟩
  have K4 : Kb (w.heap.size + 1) b W1 w4 := ⟨K4'.os, K4'.tape, K4'.output, K4'.size, K4'.block⟩
  have e1 := K4.cell (by omega) (by omega) c1
  have E0 : Hid (cmP t (ps.take 0) = [] ++ wl [wTree, t]) := by
    show _ = _
    simp [cmP]
  have T4' : TG (w.heap.size + 1) b (cmP t (ps.take 0)) w4 := by rw [E0.out]; exact T4
  clear T4 K4' G1 E0
  go_wp2_with fail
  go_loopw [7, 42] (fun _p i wr => ∃ k : Nat, k ≤ ps.length ∧ i = .int .i64 k ∧ TG (w.heap.size + 1) b (cmP t (ps.take k)) wr ∧ Kb (w.heap.size + 1) b W1 wr) (fun _ i _ => ps.length - (intOf i).toNat)
  case atStart => exact ⟨0, Nat.zero_le _, rfl, T4', K4⟩
  case round =>
    clear T4' K4 e1
    obtain ⟨k, hk, rfl, Tk, Kk⟩ := hrel
    have hsz : w.heap.size + 1 ≤ wr.heap.size := by have := Kk.size; have := Z1.out; omega
    have hlen := cmP_len y0 y2 k hk
    by_cases hlt : k < ps.length
    · have qk : (k : Int) < (ps.length : Int) := by omega
      obtain ⟨g, off, e, hg, d0⟩ := S1.2 k hlt
      subst e
      have d := Kk.cell (by omega) (by omega) d0
      have yk := y2 k hlt
      have ek := cmP_take t ps k hlt
      obtain ⟨p, hp⟩ : ∃ p, ps.getD k ByteArray.empty = p := ⟨_, rfl⟩
      rw [hp] at d yk ek
      have EK : Hid (cmP t (ps.take (k + 1)) = cmP t (ps.take k) ++ wl [wPar, p]) := ek
      clear hp ek d0 S1
      go_wp2_with fail
      refine (words2 (w.heap.size + 1) b _ wPar p wr Tk hsz (by decide) (by omega) (by omega)).mono ?_
      rintro e w5 ⟨rfl, T5, K5⟩
      have T6 : TG (w.heap.size + 1) b (cmP t (ps.take (k + 1))) w5 := by rw [EK.out]; exact T5
      have K6 := Kk.trans K5
      clear T5 K5 EK Tk Kk
      go_wp2_with fail
      go_roundw
      case rel => exact ⟨k + 1, by omega, by go_num, T6, K6⟩
      case measure => first | (simp [intOf]; omega) | simp [intOf]
    · have qk : ¬ (k : Int) < (ps.length : Int) := by omega
      have ek : ps.take k = ps := List.take_of_length_le (by omega)
      rw [ek] at Tk hlen
      have e2 := Kk.cell (by omega) (by omega) c2
      have e3 := Kk.cell (by omega) (by omega) c3
      have TAk : TaG wr := TA1.below (Kk.below (by omega)) hgB
      have hFI := formatInt tm q1 q2 wr TAk
      have yi := it_size q1 q2
      clear ek S1 TA1
      go_wp2_with fail
      refine hFI.mono ?_
      rintro e w5 ⟨rfl, b5⟩
      have K5 : Kb (w.heap.size + 1) b W1 w5 := Kk.trans (Kb.of (b5.mono hsz))
      have T5 := Tk.below b5
      have s5 := b5.size
      have f3 := K5.cell (by omega) (by omega) c3
      clear hFI TAk Tk Kk b5 e2 e3
      go_wp2_with fail
      refine (words2 (w.heap.size + 1) b _ wTime (itB tm) w5 T5 (by omega) (by decide) (by omega) (by omega)).mono ?_
      rintro e w6 ⟨rfl, T6, K6'⟩
      have K6 := K5.trans K6'
      have s6 := K6'.size
      have f4 := K6.cell (by omega) (by omega) c3
      have l6 : (cmP t ps ++ wl [wTime, itB tm]).length ≤ 1000 := by
        rw [List.length_append, wl2_len]
        have : wTime.size = 4 := rfl
        omega
      clear T5 K5 K6' f3
      go_wp2_with fail
      refine (words2 (w.heap.size + 1) b _ wNote no w6 T6 (by omega) (by decide) (by omega) (by omega)).mono ?_
      rintro e w7 ⟨rfl, T7, K7⟩
      have HT : Hid (TB b b (cmL t ps tm no) w7) := TG.toB T7
      have HB : Hid (Below b w w7) := b1'.trans ((K6.trans K7).below (by omega))
      clear T6 T7 K6 K7 f4
      go_wp2
      go_ret
      exact ⟨rfl, HT.out, HB.out⟩
end Go.Proofs.YtgidcncmicmggamGreatDoor
