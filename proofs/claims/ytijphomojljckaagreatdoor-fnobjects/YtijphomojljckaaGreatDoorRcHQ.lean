/- What stands in memory while a commit is read; strconv.ParseInt. No statement is proved here. -/
import Derived.Test.YtijphomojljckaaGreatDoorRows
import Derived.Test.YtijphomojljckaaGreatDoorLemQ
import Derived.Test.YtijphomojljckaaGreatDoorMarksQ
import Derived.Test.YtijphomojljckaaGreatDoorComQ
import Derived.Test.YtijphomojljckaaGreatDoorIterQ
import Derived.Test.YtijphomojljckaaGreatDoorCutLQ
import Derived.Test.YtijphomojljckaaGreatDoorCmTQ
import Derived.Test.YtijphomojljckaaGreatDoorDcLQ
import Derived.Test.YtijphomojljckaaGreatDoorRegRQ
import Derived.Test.YtijphomojljckaaGreatDoorShelfBQ
import Derived.Lib.ParseIntB
import Derived.Lib.Builder
import Derived.Lib.ConvBytes
import Derived.RangeFuncWrites
import Derived.RangeFuncBox
import Derived.Below
import Derived.WalkKit
import Derived.ProofKit
namespace Go.Proofs.YtijphomojljckaaGreatDoor.Dc
open Go.RowKit Go.Shelf
open Go.Proofs.YtijphomojljckaaGreatDoor.Te

/-- The errors that strconv tells: some errors. -/
def PeG (w : World) : Prop := (∃ (T : TypeId) (u : Value), w.cell? ⟨4, 0, none⟩ = some (.iface T u)) ∧ (∃ (T : TypeId) (u : Value), w.cell? ⟨5, 0, none⟩ = some (.iface T u))
theorem PeG.below {B : Nat} {w w' : World} (h : PeG w) (hb : Below B w w') (h1 : 4 < B) (h2 : 5 < B) : PeG w' := by
  obtain ⟨⟨T, u, h⟩, T', u', h'⟩ := h
  exact ⟨⟨T, u, (hb.cell (p := ⟨4, 0, none⟩) h1).trans h⟩, T', u', (hb.cell (p := ⟨5, 0, none⟩) h2).trans h'⟩
/-- How ParseInt ends. -/
def PN (s : ByteArray) (e : Ending) : Prop := (∃ n : Int, pI s.data.toList = some n ∧ e = .returned (.tuple #[.int .i64 n, .nilIface])) ∨ (pI s.data.toList = none ∧ ∃ (n : Int) (T : TypeId) (u : Value), e = .returned (.tuple #[.int .i64 n, .iface T u]))
theorem parseIntC (s : ByteArray) (w : World) (hs : s.size ≤ 1048576) (hP : PeG w) :
    Calls Tryz.prog 55 #[.string s, .int .i64 10, .int .i64 64] w fun e w' => PN s e ∧ Below w.heap.size w w' := by
  obtain ⟨⟨T, u, h1⟩, T', u', h2⟩ := hP
  cases h : Lib.parseIntB 64 s.data.toList with
  | ok n =>
    refine (Tryz.strconv_ParseInt_10_at64_ok s (by omega) n h w).mono ?_
    rintro e w' ⟨rfl, hw⟩
    refine ⟨.inl ⟨n, by unfold pI; rw [h], rfl⟩, ?_⟩
    rcases hw with rfl | ⟨t, rfl⟩
    · exact Below.refl _ _
    · exact Lib.bytesWorld_below _ _ _
  | «syntax» =>
    refine (Tryz.strconv_ParseInt_10_at64_syntax s (by omega) h _ w h1 (.inr ⟨_, _, rfl⟩)).mono ?_
    rintro e w' ⟨N, rfl, _, _, hb⟩
    exact ⟨.inr ⟨by unfold pI; rw [h], _, _, _, rfl⟩, hb⟩
  | range =>
    refine (Tryz.strconv_ParseInt_10_at64_range s (by omega) h _ w h2 (.inr ⟨_, _, rfl⟩)).mono ?_
    rintro e w' ⟨N, rfl, _, _, hb⟩
    exact ⟨.inr ⟨by unfold pI; rw [h], _, _, _, rfl⟩, hb⟩
/-- The lines that were read. -/
def ds (pre : List Sm) : List (List UInt8) := (unS pre).map (fun x => x.data.toList)
theorem ds_snoc (pre : List Sm) (x : Sm) : ds (pre ++ [x]) = ds pre ++ [x.1.data.toList] := by simp [ds, unS]
theorem pAll_snoc (pi : List UInt8 → Option Int) (xs : List (List UInt8)) (x : List UInt8) : pAll pi (xs ++ [x]) = pStep pi (pAll pi xs) x := by simp [pAll, List.foldl_append]
theorem pStep_none (pi : List UInt8 → Option Int) (x : List UInt8) : pStep pi none x = none := rfl
theorem pFold_none (pi : List UInt8 → Option Int) : ∀ xs : List (List UInt8), xs.foldl (pStep pi) none = none
  | [] => rfl
  | _ :: xs => by rw [List.foldl_cons, pStep_none]; exact pFold_none pi xs
theorem pAll_pre (pi : List UInt8 → Option Int) {xs ys : List (List UInt8)} (h : pAll pi xs = none) : pAll pi (xs ++ ys) = none := by
  unfold pAll at h ⊢
  rw [List.foldl_append, h]
  exact pFold_none pi ys
theorem ds_lines {s : ByteArray} {ys : List Sm} (h : unS ys = linesOf s) : ds ys = spl s.data.toList := by
  unfold ds
  rw [h]
  simp [linesOf, linesFrom, mkB_data, Function.comp_def]
theorem ds_prefix {s : ByteArray} {ys : List Sm} (h : unS ys <+: linesOf s) : ∃ zs, spl s.data.toList = ds ys ++ zs := by
  obtain ⟨r, hr⟩ := h
  refine ⟨r.map (fun x => x.data.toList), ?_⟩
  have e : (linesOf s).map (fun x => x.data.toList) = spl s.data.toList := by simp [linesOf, linesFrom, mkB_data, Function.comp_def]
  rw [← e, ← hr, List.map_append]
  rfl
theorem dcI_stop {s : ByteArray} {ys : List Sm} (h : unS ys <+: linesOf s) (hp : pAll pI (ds ys) = none) : dcI pI s = none := by
  obtain ⟨zs, e⟩ := ds_prefix h
  unfold dcI
  rw [e, pAll_pre pI hp]
theorem dcI_end {s : ByteArray} {ys : List Sm} {c : Cm4} (h : unS ys = linesOf s) (hp : pAll pI (ds ys) = some c) : dcI pI s = if cmF c.1 c.2.1 c.2.2.1 c.2.2.2 = 0 ∧ cmL c.1 c.2.1 c.2.2.1 c.2.2.2 = s.data.toList then some c else none := by
  unfold dcI
  rw [← ds_lines h, hp]
theorem dcI_tf {s : ByteArray} (h : ¬ tf s = 0) : dcI pI s = none := by
  cases e : dcI pI s with
  | none => rfl
  | some c =>
    obtain ⟨h0, h1⟩ := dcI_some e
    obtain ⟨k0, k1, k2⟩ := cmF_zero h0
    have := tf_commit k0 k1 k2
    rw [h1] at this
    exact absurd this h
/-- Memory while a commit is read: the two results, the commit and the error. -/
structure St4 (r B : Nat) (t : ByteArray) (v : Value) (tm : Int) (no : ByteArray) (W : World) : Prop where
  res : W.heap[r]? = some (.cells #[.string ⟨#[]⟩, .slice none 0 0, .int .i64 0, .string ⟨#[]⟩] 34 (0, 0))
  rer : W.heap[r + 1]? = some (.cells #[.nilIface] 48 (0, 0))
  com : W.heap[B]? = some (.cells #[.string t, v, .int .i64 tm, .string no] 34 (0, 0))
  err : W.heap[B + 1]? = some (.cells #[.nilIface] 48 (0, 0))
theorem blk_own {X Y : World} {b : Nat} {vs : Array Value} {t : TypeId} {fz : Nat × Nat} {row : Option Nat} (h : X.heap[b]? = some (.cells vs t fz)) (hg : X.grownBy Y row) (hr : ∀ r, row = some r → ∃ o : Obj, X.heap[r]? = some o ∧ o.isCells = false) : Y.heap[b]? = some (.cells vs t fz) := by
  refine (hg.block b (Array.getElem?_eq_some_iff.1 h).1 fun e => ?_).trans h
  obtain ⟨o, ho, hc⟩ := hr b e.symm
  rw [h] at ho; cases ho; cases hc
theorem blk_below {X Y : World} {b : Nat} {o : Obj} (h : X.heap[b]? = some o) (hb : Below X.heap.size X Y) : Y.heap[b]? = some o := (hb.block b (Array.getElem?_eq_some_iff.1 h).1).trans h
theorem blk_set {X : World} {b c o : Nat} {ob : Obj} {v : Value} (h : X.heap[b]? = some ob) (hne : ¬ b = c) : (X.setCell ⟨c, o, none⟩ v).heap[b]? = some ob := (Below.heap_setCell _ _ _ _ (by simpa using hne)).trans h
theorem St4.own {r B : Nat} {t no : ByteArray} {v : Value} {tm : Int} {X Y : World} {row : Option Nat} (h : St4 r B t v tm no X) (hg : X.grownBy Y row) (hr : ∀ r, row = some r → ∃ o : Obj, X.heap[r]? = some o ∧ o.isCells = false) : St4 r B t v tm no Y :=
  ⟨blk_own h.res hg hr, blk_own h.rer hg hr, blk_own h.com hg hr, blk_own h.err hg hr⟩
theorem St4.below {r B : Nat} {t no : ByteArray} {v : Value} {tm : Int} {X Y : World} (h : St4 r B t v tm no X) (hb : Below X.heap.size X Y) : St4 r B t v tm no Y :=
  ⟨blk_below h.res hb, blk_below h.rer hb, blk_below h.com hb, blk_below h.err hb⟩
theorem St4.set {r B o : Nat} {t t' no no' : ByteArray} {v v' u : Value} {tm tm' : Int} {X : World} (h : St4 r B t v tm no X) (hB : r + 2 ≤ B) (e : #[Value.string t, v, .int .i64 tm, .string no].setIfInBounds o u = #[.string t', v', .int .i64 tm', .string no']) : St4 r B t' v' tm' no' (X.setCell ⟨B, o, none⟩ u) :=
  ⟨blk_set h.res (by omega), blk_set h.rer (by omega), by
    rw [← e]
    have := h.com
    simp [World.setCell, Array.getElem?_modify, this], blk_set h.err (by omega)⟩
/-- What holds behind the lines pre. -/
def IV (r B : Nat) (pre : List Sm) (W : World) : Prop := ∃ (t : ByteArray) (ps : List ByteArray) (tm : Int) (no : ByteArray) (v : Value), pAll pI (ds pre) = some (t, ps, tm, no) ∧ ps.length ≤ pre.length ∧ St4 r B t v tm no W ∧ W.ownsRow (B + 3) 9 1 v ps.length (ps.map Value.string)
theorem IV_own (r B : Nat) : Own (IV r B) := by
  rintro pre X Y row ⟨t, ps, tm, no, v, hp, hl, hS, hr⟩ hg hrow
  refine ⟨t, ps, tm, no, v, hp, hl, hS.own hg hrow, hr.kept hg ?_⟩
  rcases hr.2 with ⟨rfl, _⟩ | ⟨g, cap, cur, rfl, _, hgb, _⟩
  · exact .inl rfl
  · refine .inr fun e' => ?_
    obtain ⟨o, ho, hc⟩ := hrow g (by simpa [Value.ownBlock] using e'.symm)
    rw [hgb] at ho; cases ho; cases hc
/-- What holds where the reading stopped. -/
def IX (r : Nat) (c : Code) (pre : List Sm) (W : World) : Prop := c = .ret ∧ pAll pI (ds pre) = none ∧ W.heap[r]? = some (.cells #[.string ⟨#[]⟩, .slice none 0 0, .int .i64 0, .string ⟨#[]⟩] 34 (0, 0)) ∧ ∃ (T : TypeId) (u : Value), W.heap[r + 1]? = some (.cells #[.iface 80 (.agg #[.iface T u])] 48 (0, 0))
theorem IX_own (r : Nat) (c : Code) : Own (IX r c) := by
  rintro pre X Y row ⟨hc, hp, h0, T, u, h1⟩ hg hrow
  exact ⟨hc, hp, blk_own h0 hg hrow, T, u, blk_own h1 hg hrow⟩
theorem keeps_below {W W' : World} (h : Below W.heap.size W W') : KeepsOthers W W' := KeepsOthers.of_grownBy (grown_of_below h none) (fun j o ej _ => by cases ej)
theorem rowKept {W W' : World} {base : Nat} {e : TypeId} {size n : Nat} {v : Value} {xs : List Value} (h : W.ownsRow base e size v n xs) (hb : Below W.heap.size W W') : W'.ownsRow base e size v n xs := h.kept (grown_of_below hb none) (by cases hv : v.ownBlock <;> simp)
/-- One field of the commit is set. -/
theorem set_end {r B o : Nat} {w W W3 : World} {t t' no no' : ByteArray} {v : Value} {u : Value} {tm tm' : Int} {ps : List ByteArray} (hB : r + 2 ≤ B) (h3 : Below W.heap.size W W3) (hS : St4 r B t v tm no W3) (hrow : W3.ownsRow (B + 3) 9 1 v ps.length (ps.map Value.string)) (hb : Below r w W) (hsz : B + 3 ≤ W.heap.size) (hr : r ≤ W.heap.size)
    (e : #[Value.string t, v, .int .i64 tm, .string no].setIfInBounds o u = #[.string t', v, .int .i64 tm', .string no']) :
    KeepsOthers W (W3.setCell ⟨B, o, none⟩ u) ∧ KeepB (B + 2) W (W3.setCell ⟨B, o, none⟩ u) ∧ St4 r B t' v tm' no' (W3.setCell ⟨B, o, none⟩ u) ∧ (W3.setCell ⟨B, o, none⟩ u).ownsRow (B + 3) 9 1 v ps.length (ps.map Value.string) ∧ Below r w (W3.setCell ⟨B, o, none⟩ u) ∧ B + 3 ≤ (W3.setCell ⟨B, o, none⟩ u).heap.size :=
  ⟨(keeps_below h3).trans (KeepsOthers.setCell _ _ _), (Below.heap_setCell _ _ _ _ (by simp)).trans (h3.block _ (by omega)), hS.set hB e, ownsRow_setCell_below hrow (a := ⟨B, o, none⟩) (show B < B + 3 by omega) u, (hb.trans (h3.mono hr)).setCell (p := ⟨B, o, none⟩) (show r ≤ B by omega) u, by simpa using Nat.le_trans hsz h3.size⟩
theorem app_end {r B : Nat} {w W u6 w3 : World} {t no : ByteArray} {v v' : Value} {tm : Int} {ps : List ByteArray} {x : ByteArray} {tmp : Obj} (hB : r + 2 ≤ B) (h3 : Below W.heap.size W u6) (hS : St4 r B t v tm no u6) (hrow : u6.ownsRow (B + 3) 9 1 v ps.length (ps.map Value.string)) (hb : Below r w W) (hsz : B + 3 ≤ W.heap.size) (hr : r ≤ W.heap.size)
    (hown' : w3.ownsRow (B + 3) 9 1 v' (ps.length + 1) (ps.map Value.string ++ [.string x])) (hgrow : (u6.alloc tmp).grownBy w3 v.ownBlock) :
    (w3.cell? ⟨B, 1, none⟩ = some v ∧ w3.frozen? ⟨B, 1, none⟩ = false) ∧ KeepsOthers W (w3.setCell ⟨B, 1, none⟩ v') ∧ KeepB (B + 2) W (w3.setCell ⟨B, 1, none⟩ v') ∧ St4 r B t v' tm no (w3.setCell ⟨B, 1, none⟩ v') ∧ (w3.setCell ⟨B, 1, none⟩ v').ownsRow (B + 3) 9 1 v' (ps ++ [x]).length ((ps ++ [x]).map Value.string) ∧ Below r w (w3.setCell ⟨B, 1, none⟩ v') ∧ B + 3 ≤ (w3.setCell ⟨B, 1, none⟩ v').heap.size := by
  have hge : ∀ j, v.ownBlock = some j → B + 3 ≤ j := fun j hj => (hrow.lt j hj).1
  have z6 : B + 3 ≤ u6.heap.size := Nat.le_trans hsz h3.size
  have kb : ∀ k o, k < B + 3 → u6.heap[k]? = some o → w3.heap[k]? = some o := fun k o hk ho =>
    (hgrow.block k (by simp; omega) (fun e => by have := hge k e.symm; omega)).trans ((Below.heap_alloc _ _ _ (by omega)).trans ho)
  have S3 : St4 r B t v tm no w3 := ⟨kb _ _ (by omega) hS.res, kb _ _ (by omega) hS.rer, kb _ _ (by omega) hS.com, kb _ _ (by omega) hS.err⟩
  have kO : KeepsOthers W w3 := ((keeps_below h3).trans (KeepsOthers.alloc u6 tmp)).trans (KeepsOthers.of_grownBy hgrow fun j o ej hj => by
    rcases (hrow.alloc tmp).2 with ⟨rfl, _⟩ | ⟨g, cap, cur, rfl, _, hgb, _⟩
    · simp [Value.ownBlock] at ej
    · obtain rfl : g = j := by simpa [Value.ownBlock] using ej
      rw [hgb] at hj; cases hj; rfl)
  have z3 : B + 3 ≤ w3.heap.size := by have := hgrow.size; simp at this; omega
  have b6 : Below r w u6 := hb.trans (h3.mono hr)
  have b3 : Below r w w3 := (b6.alloc (by omega) tmp).grown hgrow (by simp; omega) (fun j ej => by have := hge j ej; omega)
  refine ⟨⟨by rw [Lib.cell_of_heap S3.com]; rfl, Lib.frozen_of_heap S3.com 1⟩, kO.trans (KeepsOthers.setCell _ _ _), ?_, S3.set hB rfl, ?_, b3.setCell (p := ⟨B, 1, none⟩) (show r ≤ B by omega) v', by simpa using z3⟩
  · have e1 : (w3.setCell ⟨B, 1, none⟩ v').heap[B + 2]? = w3.heap[B + 2]? := Below.heap_setCell _ _ _ _ (by simp)
    have e2 : w3.heap[B + 2]? = (u6.alloc tmp).heap[B + 2]? := hgrow.block _ (by simp; omega) (fun e => by have := hge _ e.symm; omega)
    exact e1.trans (e2.trans ((Below.heap_alloc _ _ _ (by omega)).trans (h3.block _ (by omega))))
  · rw [List.length_append, List.map_append]
    exact ownsRow_setCell_below hown' (a := ⟨B, 1, none⟩) (show B < B + 3 by omega) v'
theorem rowCap {w : World} {base : Nat} {e : TypeId} {size n : Nat} {a : Option Addr} {c m : Nat} {xs : List Value} (h : w.ownsRow base e size (.slice a m c) n xs) : n ≤ c := by
  rcases h.2 with ⟨h', h0⟩ | ⟨g, cap, cur, h', _, _, h2⟩
  · omega
  · simp only [Value.slice.injEq] at h'
    obtain ⟨_, _, rfl⟩ := h'
    first | exact h2.1 | exact h2.2.1 | exact h2.2.2.1 | omega
theorem pStep_par {c d : Cm4} {x : List UInt8} (h : pStep pI (some c) x = some d) : d.2.1 = c.2.1 ∨ d.2.1 = c.2.1 ++ [mkB (aft (trimL x))] := by
  obtain ⟨t, ps, tm, no⟩ := c
  simp only [pStep] at h
  split at h
  · obtain rfl := Option.some.inj h; exact .inl rfl
  · split at h
    · obtain rfl := Option.some.inj h; exact .inr rfl
    · split at h
      · split at h
        · cases h
        · obtain rfl := Option.some.inj h; exact .inl rfl
      · split at h
        · obtain rfl := Option.some.inj h; exact .inl rfl
        · obtain rfl := Option.some.inj h; exact .inl rfl
theorem pFold_sizes {M : Nat} : ∀ (xs : List (List UInt8)) (c c' : Cm4), (∀ x ∈ xs, x.length ≤ M) → (∀ p ∈ c.2.1, p.size ≤ M) → xs.foldl (pStep pI) (some c) = some c' → ∀ p ∈ c'.2.1, p.size ≤ M
  | [], c, c', _, hc, h => by obtain rfl := Option.some.inj h; exact hc
  | x :: xs, c, c', hx, hc, h => by
    rw [List.foldl_cons] at h
    cases e : pStep pI (some c) x with
    | none => rw [e, pFold_none] at h; cases h
    | some d =>
      rw [e] at h
      refine pFold_sizes xs d c' (fun y hy => hx y (List.mem_cons_of_mem _ hy)) (fun p hp => ?_) h
      rcases pStep_par e with q | q
      · rw [q] at hp; exact hc p hp
      · rw [q] at hp
        rcases List.mem_append.1 hp with k | k
        · exact hc p k
        · rw [List.mem_singleton.1 k, mkB_size]
          have h1 := hx x List.mem_cons_self
          have h2 := trim_len x
          have h3 := aft_len (trimL x)
          omega
theorem pSizes (ys : List Sm) {t : ByteArray} {ps : List ByteArray} {tm : Int} {no : ByteArray} (h : pAll pI (ds ys) = some (t, ps, tm, no)) (k : Nat) (hk : k < ps.length) : (ps.getD k ByteArray.empty).size ≤ 1048576 := by
  have := pFold_sizes (M := 1048576) (ds ys) _ _ (fun x hx => by
    unfold ds unS at hx
    rw [List.map_map] at hx
    obtain ⟨y, _, rfl⟩ := List.mem_map.1 hx
    show y.1.data.toList.length ≤ 1048576
    rw [size_eq]; exact y.2) (fun p hp => by cases hp) h
  refine this _ ?_
  rw [List.getD, List.getElem?_eq_getElem hk]
  exact List.getElem_mem hk
end Go.Proofs.YtijphomojljckaaGreatDoor.Dc
