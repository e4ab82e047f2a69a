/- Proved: at every text FnExactDecodeCommit returns true (DecodeCommit answers as its specification, field by field; its answer owns its memory, behind another call too); the card itself. Texts laid together: RtH, DcV, DcW, WtD, ShelfP, RcH, Shelf, WvC, RcC, DcD, DcG, DcLaw. -/
import Derived.Test.YtgidcncmicmggamGreatDoorRows
import Derived.Test.YtgidcncmicmggamGreatDoorM1
import Derived.Test.YtgidcncmicmggamGreatDoorM2
import Derived.Test.YtgidcncmicmggamGreatDoorM4
import Derived.Test.YtgidcncmicmggamGreatDoorM5
import Derived.Test.YtgidcncmicmggamGreatDoorM3
import Derived.WalkKit
import Derived.ProofKit
import Derived.Below
import Derived.Maps.AppendAt
import Derived.OwnWalkIn
import Derived.Deep.RegionHeld
import Derived.WalkSpells
import Derived.Deep.QuietTactic
import Derived.BigQuiet
import Derived.Shelf.Strings.Builder1
import Derived.Shelf.Strings.Builder2
import Derived.Shelf.Strings.OnBuilder
import Derived.Shelf.Small.Bits
import Derived.Shelf.Small.Strs
import Derived.Shelf.Strings.BuilderF
import Derived.Shelf.Strconv.Itoa0
import Derived.Shelf.Strconv.Itoa1
import Derived.Shelf.LaysM
import Derived.Shelf.Strconv.Itoa2
import Derived.Shelf.Strconv.Itoa3
import Derived.Shelf.Strconv.Itoa4
import Derived.Shelf.Strconv.ParseIntEmpty
import Derived.Shelf.Strconv.Clone
import Derived.Shelf.Strconv.SyntaxError
import Derived.Shelf.LaysC
import Derived.Shelf.Strconv.ToError
import Derived.Shelf.Strconv.Lower
import Derived.Shelf.Strconv.ParseUint10
import Derived.Shelf.Strconv.ParseUint10Empty
import Derived.Shelf.Strconv.ParseUint10Any
import Derived.Shelf.Strconv.ParseInt10
import Derived.Shelf.Strconv.RangeError
import Derived.Shelf.Strconv.ToErrorRange
import Derived.Shelf.Strconv.ParseUintEmpty
import Derived.Shelf.Strconv.ParseUint10b64
import Derived.Shelf.Strconv.ParseUint10b32
import Derived.Shelf.Strconv.ParseUint10b16
import Derived.Shelf.Strconv.ParseUint10b8
import Derived.Shelf.Strconv.ParseUint10At
import Derived.Shelf.Strconv.ParseInt10At64
import Derived.Shelf.Strconv.ParseInt10At32
import Derived.Shelf.Strconv.ParseInt10At16
import Derived.Shelf.Strconv.ParseInt10At8
import Derived.Shelf.Strconv.ParseInt10All
import Derived.Shelf.Strconv.ParseIntPublic10
import Derived.Shelf.Strings.Search1
import Derived.Shelf.Strings.Search2
import Derived.Shelf.Strings.Search3
import Derived.Shelf.Strings.Cut
import Derived.Shelf.Strings.Shaped
import Derived.Shelf.Unicode.Decode
import Derived.Shelf.Unicode.DecodeSlow
import Derived.Shelf.Unicode.DecodeAny
import Derived.Shelf.Slices.Turned
import Derived.Test.YtgidcncmicmggamGreatDoorProg
import Derived.Lib.ParseIntB
import Derived.Lib.Builder
import Derived.Lib.ConvBytes
import Derived.RangeFuncWrites
import Derived.RangeFuncBox
import Derived.ChangeSame
import Derived.ChangeVars
import Derived.JoinedOf
import Derived.RowKit
import Derived.RowKitTokens
import Derived.LaidLaws
import Derived.LaidHandle
import Derived.LaidMore
import Derived.OpenShut
import Derived.OpenVars
import Derived.Lib.LaidTab
import Derived.Stop.Joined
import Derived.Test.YtgidcncmicmggamGreatDoorTie
import Derived.Test.YtgidcncmicmggamGreatDoorCards
import Derived.Carry
import Derived.ShutString
import Derived.SevenTiedAt
/- Small laws for regions that draw their order, rows and pieces of lines. No statement is proved here. -/
namespace Go.Proofs.YtgidcncmicmggamGreatDoor.Dc
open Go.RowKit Go.Shelf
open Go.Proofs.YtgidcncmicmggamGreatDoor.Te

theorem keep3 {w w1 : World} {g o : Nat} {v : Value} (b : Below w.heap.size w w1) (hg : g < w.heap.size) (h : w.cell? ⟨g, o, none⟩ = some v) : w1.cell? ⟨g, o, none⟩ = some v := (b.cell (p := ⟨g, o, none⟩) hg).trans h
theorem takeD {P : Program} {md : Region.Mode} {ops : Array Oper} {Q : Exit → Act → World → Prop} {S : World → Prop} {i d : Nat} {oi : Oper} {v : Value} {fuel : Nat} {listed listed' : Array Bool} {a : Act} {w : World} (hi : ops[i]? = some oi)
    (hs : Region.noSelect ops = true) (hf : Region.free md ops listed i = true) (hr : (Region.ready md ops listed).contains i = true)
    (hQ : ∀ c a w, Q (.panic c) (a.put oi.dst v) w → Q (.panic c) a w) (hy : YieldsIf P ops S oi v a) (hS : S w) (hd : oi.dst = some d) (hl : listed.setIfInBounds i true = listed')
    (h : wpAnyH P md ops Q S fuel listed' (a.put (some d) v) w) : wpAnyH P md ops Q S (fuel + 1) listed a w := by
  subst hl
  exact wpAnyH_take hi hs hf hr hQ hy hS (by rw [hd]; exact h)
theorem moreS {P : Program} {md : Region.Mode} {ops : Array Oper} {Q : Exit → Act → World → Prop} {S S' : World → Prop} (hSS : ∀ w, S' w → S w) : ∀ (fuel : Nat) (listed : Array Bool) (a : Act) (w : World), wpAnyH P md ops Q S' fuel listed a w → wpAnyH P md ops Q S fuel listed a w
  | 0, _, _, _, h => h
  | fuel + 1, _, _, _, h => ⟨h.1, fun i hi => wpOp_mono (fun a' w' h' => ⟨hSS _ h'.1, moreS hSS fuel _ a' w' h'.2⟩) (h.2 i hi)⟩
theorem rowDown {w : World} {B B' : Nat} {e : TypeId} {size n : Nat} {v : Value} {xs : List Value} (h : w.ownsRow B e size v n xs) (hB : B' ≤ B) : w.ownsRow B' e size v n xs :=
  ⟨h.1, h.2.imp id fun ⟨g, cap, cur, h1, h2, h3⟩ => ⟨g, cap, cur, h1, Nat.le_trans hB h2, h3⟩⟩
/-- append onto a row of the call's own, as one step of a region that draws. -/
theorem stepH_append_own {P : Program} {ops : Array Oper} {o : Oper} {a : Act} {w : World} {K : Act → World → Prop} {Q : Exit → Act → World → Prop} {E : Prop}
    (hg : o.guard = none) (s x : Operand) (t : TypeId) (hop : o.op = Op.call { callee := Callee.builtin Builtin.append, args := #[s, x], argTypes := #[t, t] })
    (base : Nat) (e : TypeId) (i : TypeInfo) (z : Value) (size bytes : Nat) (h1 : P.underlying t = some (.slice e)) (h2 : P.info? e = some i) (h3 : i.zero = some z) (h4 : i.size = size) (h5 : i.bytes = bytes) (h6 : z.cells.size = size) (h7 : 0 < size)
    (v : Value) (k : Nat) (xs : List Value) (hs : a.eval s = v) (hown : w.ownsRow base e size v k xs) (ad : Addr) (m c : Nat) (news : List Value) (hx : a.eval x = .slice (some ad) m c) (hn : news.length = m * size)
    (hc : ∀ j u, news[j]? = some u → w.cell? (ad.add j) = some u) (h1c : ∀ u ∈ news, u.oneCell' = true) (b1 : k + m ≤ maxLen) (b2 : (k + m) * bytes ≤ 140737488355328) (b3 : base ≤ w.heap.size)
    (hK : ∀ v' w', w'.ownsRow base e size v' (k + m) (xs ++ news) → w.grownBy w' v.ownBlock → K (a.put o.dst v') w') :
    if Region.wanted o (yielded ops a.tmps) = true then Oper.wp P o a w K Q else E := by
  have hw : Region.wanted o (yielded ops a.tmps) = true := by simp [Region.wanted, hg]
  rw [if_pos hw]
  obtain ⟨v', w', hrun, r1, r2, _⟩ := run_append_own (P := P) w base t o.type e i z size bytes h1 h2 h3 h4 h5 h6 h7 v k xs hown ad m c news hn hc h1c b1 b2 b3
  unfold Oper.wp
  simp [execOp, hop, resolve, invoke, builtin, hs, hx, hrun, Result.andThen]
  exact hK v' w' r1 r2
theorem aft_len (l : List UInt8) : (aft l).length ≤ l.length := by
  unfold aft
  rw [List.length_drop]
  have := (List.dropWhile_sublist (fun c : UInt8 => c != 32) (l := l)).length_le
  omega
theorem bef_len (l : List UInt8) : (bef l).length ≤ l.length := (List.takeWhile_sublist _).length_le
theorem trim_len (l : List UInt8) : (trimL l).length ≤ l.length := by
  unfold trimL
  split
  · simp
  · exact Nat.le_refl _
theorem mkB_size (l : List UInt8) : (mkB l).size = l.length := by rw [← size_eq, mkB_data]
def onlyN (Q : Exit → Act → World → Prop) (e : Exit) (a : Act) (w : World) : Prop := e = .normal ∧ Q e a w
theorem region_wide {P : Program} {ops : Array Oper} {n id : Nat} {Q : Exit → Act → World → Prop} {S : World → Prop} {a : Act} {w : World} (hm : P.follows .mixedOrders = true) (hS : S w.drew)
    (h : S w.drew → wpAnyH P .any ops (onlyN Q) S ops.size (Array.replicate ops.size false) a w.drew) : (Code.region id ops true).wpIn Fence.wide n P Q a w :=
  wpIn_wide.2 (wp_mono (wp_region_held_drew hm hS h) (fun _ _ _ q => q.2))
theorem SS.keptBy {w w' : World} {a : Option Addr} {ss : List ByteArray} {row : Option Nat} (h : SS w a ss) (hg : w.grownBy w' row) (hne : ∀ g off, a = some ⟨g, off, none⟩ → row ≠ some g) : SS w' a ss :=
  ⟨h.1, fun k hk => by
    obtain ⟨b, off, e, hb, hc⟩ := h.2 k hk
    refine ⟨b, off, e, Nat.lt_of_lt_of_le hb hg.size, ?_⟩
    have := hg.block b hb (fun q => hne b off e q.symm)
    unfold World.cell? at hc ⊢
    rw [this]; exact hc⟩
theorem SS.setOther {w : World} {a : Option Addr} {ss : List ByteArray} {b o : Nat} {v : Value} (h : SS w a ss) (hne : ∀ g off, a = some ⟨g, off, none⟩ → ¬ g = b) : SS (w.setCell ⟨b, o, none⟩ v) a ss :=
  SS.keptBy h ⟨rfl, rfl, rfl, (KeepsWalks.setCell w _ v).size, fun k _ hk => Below.heap_setCell _ _ _ k (fun e => hk (by rw [e]))⟩ (row := some b) (fun g off e q => hne g off e (Option.some.inj q).symm)
theorem line_size (s : ByteArray) (k : Nat) (hk : k < (linesOf s).length) : ((linesOf s).getD k ByteArray.empty).size ≤ s.size := by
  have hk' : k < (spl s.data.toList).length := by simpa [linesOf, linesFrom] using hk
  have e : (linesOf s).getD k ByteArray.empty = mkB ((spl s.data.toList)[k]) := by simp [linesOf, linesFrom, List.getD, hk']
  rw [e, mkB_size, ← size_eq]
  have h := (List.sublist_flatten_of_mem (List.getElem_mem hk')).length_le
  rw [spl_join] at h
  exact h
theorem unT_size (x : ByteArray) : (unT x).size ≤ x.size := by
  unfold unT
  split
  · rw [mkB_size, ← size_eq]; exact trim_len _
  · exact Nat.zero_le _
end Go.Proofs.YtgidcncmicmggamGreatDoor.Dc
/- The contract of spec.l6Uncommit. No statement is proved here. -/
set_option linter.unusedVariables false
namespace Go.Proofs.YtgidcncmicmggamGreatDoor.Dc
open Go.ChangeShapes Go.WideShapes Go.ChangeAt Go.RowKit
open Go.Proofs.YtgidcncmicmggamGreatDoor.Te

/-- How l6Uncommit ends. -/
def UC (s : ByteArray) (w : World) (e : Ending) (w' : World) : Prop := Below w.heap.size w w' ∧
  ((dcS tI s ∧ ∃ v, e = .returned (.tuple #[.agg #[.string (sCm tI (spl s.data.toList)).1, v, .int .i64 (sCm tI (spl s.data.toList)).2.2.1, .string (sCm tI (spl s.data.toList)).2.2.2], .bool true]) ∧ w'.ownsRow w.heap.size 9 1 v (sCm tI (spl s.data.toList)).2.1.length ((sCm tI (spl s.data.toList)).2.1.map Value.string)) ∨
    (¬ dcS tI s ∧ ∃ t a n c tm no, e = .returned (.tuple #[.agg #[.string t, .slice a n c, .int .i64 tm, .string no], .bool false])))
theorem uc_few {s : ByteArray} (h : (spl s.data.toList).length < 3) : ¬ dcS tI s := fun q => by have := q.1.1; omega
/-- The state behind k lines. -/
structure UR (xs : List (List UInt8)) (k b : Nat) (v : Value) (wr : World) : Prop where
  blk : Rf wr (b + 1) [.string (cT xs k), v, .int .i64 (cM xs k), .string (cN xs k)]
  row : wr.ownsRow (b + 2) 9 1 v (cP xs k).length ((cP xs k).map Value.string)
theorem UR.below {xs : List (List UInt8)} {k b : Nat} {v : Value} {w w' : World} (h : UR xs k b v w) (hb : b + 1 < w.heap.size) (hB : Below w.heap.size w w') : UR xs k b v w' :=
  ⟨h.blk.below hb hB, h.row.kept (grownOfBelow hB none) (by cases hv : v.ownBlock <;> simp)⟩
theorem ownSet {w : World} {base b o : Nat} {e : TypeId} {s n : Nat} {v u : Value} {xs : List Value} (h : w.ownsRow base e s v n xs) (hb : b < base) : (w.setCell ⟨b, o, none⟩ u).ownsRow base e s v n xs :=
  ownsRow_setCell_below h (a := ⟨b, o, none⟩) hb u
theorem UR.next {xs : List (List UInt8)} {k b o : Nat} {v u : Value} {w : World} (h : UR xs k b v w) (ho : o < 4) (hv : ¬ o = 1)
    (hs : [Value.string (cT xs k), v, .int .i64 (cM xs k), .string (cN xs k)].set o u = [.string (cT xs (k + 1)), v, .int .i64 (cM xs (k + 1)), .string (cN xs (k + 1))]) (hp : cP xs (k + 1) = cP xs k) : UR xs (k + 1) b v (w.setCell ⟨b + 1, o, none⟩ u) :=
  ⟨by rw [← hs]; exact h.blk.set (o := o) (by simpa using ho) u, by rw [hp]; exact ownSet h.row (by omega)⟩
theorem UR.push {xs : List (List UInt8)} {k b : Nat} {v v' : Value} {x : ByteArray} {w' : World} (h : Rf w' (b + 1) [.string (cT xs k), v, .int .i64 (cM xs k), .string (cN xs k)]) (ho : w'.ownsRow (b + 2) 9 1 v' ((cP xs k).length + 1) ((cP xs k).map Value.string ++ [.string x]))
    (e : cT xs (k + 1) = cT xs k ∧ cP xs (k + 1) = cP xs k ++ [x] ∧ cM xs (k + 1) = cM xs k ∧ cN xs (k + 1) = cN xs k) : UR xs (k + 1) b v' (w'.setCell ⟨b + 1, 1, none⟩ v') :=
  ⟨by rw [e.1, e.2.2.1, e.2.2.2]; exact h.set (o := 1) (by simp) v', by rw [e.2.1, List.length_append, List.map_append]; exact ownSet ho (by omega)⟩
theorem cell_one (w : World) (t : TypeId) (x : Value) : ∀ (j : Nat) (u : Value), [x][j]? = some u → (w.alloc (.cells #[x] t)).cell? ((⟨w.heap.size, 0, none⟩ : Addr).add j) = some u := fun j u h => by
  have := Rs.new w #[x] t j u h
  rw [WideShapes.add_plain, Nat.zero_add]
  exact this
theorem setBelow {b o c : Nat} {w w' : World} {v : Value} (h : Below b w w') (hc : b ≤ c) : Below b w (w'.setCell ⟨c, o, none⟩ v) := h.setCell (p := ⟨c, o, none⟩) hc v
theorem Hid.mk4 {p : Prop} (h : p) : Hid p := h
theorem cases4 (k n : Nat) (h : 3 ≤ n) (hk : k < n) : k = 0 ∨ (0 < k ∧ k + 2 < n) ∨ k + 2 = n ∨ k + 1 = n := by omega
theorem Rf.keptBy {w w' : World} {b : Nat} {vs : List Value} {row : Option Nat} (h : Rf w b vs) (hg : w.grownBy w' row) (hb : b < w.heap.size) (hne : row ≠ some b) : Rf w' b vs := by
  have e := hg.block b hb (fun q => hne q.symm)
  refine ⟨fun k v hk => ?_, fun k => ?_⟩
  · have := h.at_ k v hk
    unfold World.cell? at this ⊢
    rw [e]; exact this
  · have := h.fz k
    unfold World.frozen? at this ⊢
    rw [e]; exact this
set_option maxRecDepth 20000 in
set_option maxHeartbeats 8000000 in
theorem l6UncommitC (s : ByteArray) (w : World) (hs : s.size ≤ 1048576) :
    Calls Tryz.prog 29 #[.string s] w fun e w' => UC s w e w' := by
  have hSp := fun w => l1Split s w hs
  have hsm := lines_small s hs
  have hll := lines_le s
  have hls := fun k hk => Nat.le_trans (line_size s k hk) hs
  obtain ⟨i0, hi, hz0, hz1, hz2⟩ := info_parts infoString
  have hxT : ∀ k, k < (linesOf s).length → (spl s.data.toList).getD k [] = ((linesOf s).getD k ByteArray.empty).data.toList := fun k hk => by
    have hk' : k < (spl s.data.toList).length := by simpa [linesOf, linesFrom] using hk
    simp [linesOf, linesFrom, List.getD, hk', mkB_data]
  have hxl : (linesOf s).length = (spl s.data.toList).length := by simp [linesOf, linesFrom]
  have hFew : (spl s.data.toList).length < 3 → Hid (¬ dcS tI s) := fun h => uc_few h
  have hBad : ¬ sOk tI (spl s.data.toList) → Hid (¬ dcS tI s) := fun h => fun q => h q.1
  have hEnd : 3 ≤ (spl s.data.toList).length → cG (spl s.data.toList) (spl s.data.toList).length → sOk tI (spl s.data.toList) ∧ sCm tI (spl s.data.toList) = _ := fun h3 h => c_all h3 h
  have hUC : ∀ e w', UC s w e w' = UC s w e w' := fun _ _ => rfl
  conv at hUC => intro e w'; rhs; unfold UC dcS
  conv at hBad => rhs; unfold dcS
  conv at hFew => rhs; unfold dcS
  obtain ⟨xs, hxs⟩ : ∃ xs, spl s.data.toList = xs := ⟨_, rfl⟩
  simp only [hxs] at hxT hxl hFew hBad hEnd hUC
  obtain ⟨T, hT⟩ : ∃ T, linesOf s = T := ⟨_, rfl⟩
  rw [hT] at hsm hll hxl
  simp only [hT] at hSp hls hxT
  have hTl : T.length ≤ 1048576 := by omega
  clear hT hxs hll
  have HX : Hid (T.length = xs.length) := hxl
  rw [← hxl] at hFew
  clear hxl
  simp only [hUC]
  clear hUC
  obtain ⟨b, hb⟩ : ∃ b, w.heap.size = b := ⟨_, rfl⟩
  obtain ⟨W1, hW1⟩ : ∃ W, (w.alloc (.cells #[.string ⟨#[]⟩, .slice none 0 0, .int .i64 0, .string ⟨#[]⟩] 24)).alloc (.cells #[.string ⟨#[]⟩, .slice none 0 0, .int .i64 0, .string ⟨#[]⟩] 24) = W := ⟨_, rfl⟩
  have b0 : Below b w W1 := by rw [← hW1, ← hb]; exact (allocBelow _ _).trans ((allocBelow _ _).mono (by simp))
  have z0 : W1.heap.size = b + 2 := by rw [← hW1, ← hb]; simp
  have r0 : Rf W1 b [.string ⟨#[]⟩, .slice none 0 0, .int .i64 0, .string ⟨#[]⟩] := by rw [← hW1, ← hb]; exact (Rf.new w #[.string ⟨#[]⟩, .slice none 0 0, .int .i64 0, .string ⟨#[]⟩] _).below (by simp) (allocBelow _ _)
  have v0 : Rf W1 (b + 1) [.string ⟨#[]⟩, .slice none 0 0, .int .i64 0, .string ⟨#[]⟩] := by
    rw [← hW1, ← hb]
    have := Rf.new (w.alloc (.cells #[.string ⟨#[]⟩, .slice none 0 0, .int .i64 0, .string ⟨#[]⟩] 24)) #[.string ⟨#[]⟩, .slice none 0 0, .int .i64 0, .string ⟨#[]⟩] 24
    rwa [World.size_alloc] at this
  have c0 := v0.at_ 0 _ rfl
  have c1 := v0.at_ 1 _ rfl
  have c2 := v0.at_ 2 _ rfl
  have c3 := v0.at_ 3 _ rfl
  have f0 := v0.fz 0
  have f1 := v0.fz 1
  have f2 := v0.fz 2
  have f3 := v0.fz 3
  obtain ⟨W2, hW2⟩ : ∃ W, (((W1.setCell ⟨b + 1, 0, none⟩ (.string ⟨#[]⟩)).setCell ⟨b + 1, 1, none⟩ (.slice none 0 0)).setCell ⟨b + 1, 2, none⟩ (.int .i64 0)).setCell ⟨b + 1, 3, none⟩ (.string ⟨#[]⟩) = W := ⟨_, rfl⟩
  have HZ : Hid (W2.heap.size = b + 2) := by show _ = _; rw [← hW2]; simpa using z0
  replace b0 : Below b w W2 := by rw [← hW2]; exact setBelow (setBelow (setBelow (setBelow b0 (by omega)) (by omega)) (by omega)) (by omega)
  replace r0 : Rf W2 b [.string ⟨#[]⟩, .slice none 0 0, .int .i64 0, .string ⟨#[]⟩] := by rw [← hW2]; exact (((r0.other (by omega) _).other (by omega) _).other (by omega) _).other (by omega) _
  replace v0 : Rf W2 (b + 1) [.string ⟨#[]⟩, .slice none 0 0, .int .i64 0, .string ⟨#[]⟩] := by rw [← hW2]; exact (((v0.set (o := 0) (by simp) _).set (o := 1) (by simp) _).set (o := 2) (by simp) _).set (o := 3) (by simp) _
  have u0 : UR xs 0 b (.slice none 0 0) W2 := by
    obtain ⟨e1, e2, e3, e4, _⟩ := c_zero xs
    refine ⟨?_, ?_⟩
    · rw [e1, e3, e4]; exact v0
    · rw [e2]; exact World.ownsRow_nil _ _ _ _
  clear z0 v0
  go_enter Tryz.func29, Tryz.ntmps29
  go_wp2_with fail
  refine (hSp _).mono ?_
  rintro e w1 ⟨vT, rfl, oT, b1⟩
  have hgT : ∀ g, vT.ownBlock = some g → b + 2 ≤ g := fun g hg => by
    have h1 := (oT.lt g hg).1
    have h2 := HZ.out
    omega
  obtain ⟨aT, cTT, rfl, sT, -⟩ := SS_of_row oT rfl hsm
  have hgA : ∀ g off, aT = some ⟨g, off, none⟩ → b + 2 ≤ g := fun g off e => hgT g (by subst e; rfl)
  have B1 : Below b w w1 := b0.trans (b1.mono (by have := HZ.out; omega))
  have R1 := r0.below (by have := HZ.out; omega) b1
  have U1 := u0.below (by have := HZ.out; omega) b1
  have Z1 : b + 2 ≤ w1.heap.size := by
    have h1 := b1.size
    have h2 := HZ.out
    omega
  clear hSp b0 b1 hW1 hW2 oT r0 u0 HZ hgT c0 c1 c2 c3 f0 f1 f2 f3
  by_cases h3 : T.length < 3
  · have q3 : (T.length : Int) < 3 := by omega
    have HD := hFew h3
    obtain ⟨la, lc, hv⟩ : ∃ a c, (Value.slice none 0 0) = .slice a (cP xs 0).length c := ⟨none, 0, by rw [(c_zero xs).2.1]; rfl⟩
    rw [hv] at U1
    have U := U1
    have R := R1
    have B := B1
    clear hFew hBad hEnd hxT hls sT hgA hv U1 R1 B1
    have c0 := U.blk.at_ 0 _ rfl
    have c1 := U.blk.at_ 1 _ rfl
    have c2 := U.blk.at_ 2 _ rfl
    have c3 := U.blk.at_ 3 _ rfl
    have d0 := R.at_ 0 _ rfl
    have d1 := R.at_ 1 _ rfl
    have d2 := R.at_ 2 _ rfl
    have d3 := R.at_ 3 _ rfl
    have f0 := R.fz 0
    have f1 := R.fz 1
    have f2 := R.fz 2
    have f3 := R.fz 3
    have HB : ∀ x0 x1 x2 x3, Hid (Below b w ((((w1.setCell ⟨b, 0, none⟩ x0).setCell ⟨b, 1, none⟩ x1).setCell ⟨b, 2, none⟩ x2).setCell ⟨b, 3, none⟩ x3)) := fun _ _ _ _ => setBelow (setBelow (setBelow (setBelow B (Nat.le_refl _)) (Nat.le_refl _)) (Nat.le_refl _)) (Nat.le_refl _)
    clear U R B
    obtain ⟨cT0, hcT⟩ : ∃ y, cT xs 0 = y := ⟨_, rfl⟩
    obtain ⟨cM0, hcM⟩ : ∃ y, cM xs 0 = y := ⟨_, rfl⟩
    obtain ⟨cN0, hcN⟩ : ∃ y, cN xs 0 = y := ⟨_, rfl⟩
    obtain ⟨cL0, hcL⟩ : ∃ y, (cP xs 0).length = y := ⟨_, rfl⟩
    rw [hcT] at c0
    rw [hcL] at c1
    rw [hcM] at c2
    rw [hcN] at c3
    clear hcT hcM hcN hcL
    go_wp2
    refine bodyPost_ret (v := .tuple #[.agg #[.string cT0, .slice la cL0 lc, .int .i64 cM0, .string cN0], .bool false]) (by simp [results, Tryz.results29, go_sem, d0, d1, d2, d3]) rfl ?_
    rw [hb]
    exact ⟨(HB _ _ _ _).out, .inr ⟨HD.out, _, _, _, _, _, _, rfl⟩⟩
  have q3 : ¬ (T.length : Int) < 3 := by omega
  have H3 : Hid (3 ≤ xs.length) := by show _ ≤ _; rw [← HX.out]; omega
  have h3' : 3 ≤ T.length := by omega
  clear hFew h3
  have G0 : Hid (cG xs 0) := (c_zero xs).2.2.2.2
  have ePT := beq_bytes_false (show ¬ wPar = wTree by decide)
  have eMT := beq_bytes_false (show ¬ wTime = wTree by decide)
  have eMP := beq_bytes_false (show ¬ wTime = wPar by decide)
  have eNT := beq_bytes_false (show ¬ wNote = wTree by decide)
  have eNP := beq_bytes_false (show ¬ wNote = wPar by decide)
  have eNM := beq_bytes_false (show ¬ wNote = wTime by decide)
  have eTT := beq_bytes_true (show wTree = wTree by rfl)
  have ePP := beq_bytes_true (show wPar = wPar by rfl)
  have eMM := beq_bytes_true (show wTime = wTime by rfl)
  unfold wTree wPar wTime wNote at *
  go_wp2
  go_loopw [7, 8, 9, 10, 11, 12, 13, 14] (fun i _l _e _wd _tx _ok _t _r wr => ∃ (k : Nat) (v : Value), k ≤ T.length ∧ i = .int .i64 k ∧ Hid (cG xs k) ∧ UR xs k b v wr ∧ Rf wr b [.string ⟨#[]⟩, .slice none 0 0, .int .i64 0, .string ⟨#[]⟩] ∧ Below b w wr ∧ b + 2 ≤ wr.heap.size ∧ SS wr aT T ∧ ∀ g off, aT = some ⟨g, off, none⟩ → v.ownBlock ≠ some g) (fun i _ _ _ _ _ _ _ _ => T.length - (intOf i).toNat)
  case atStart => exact ⟨0, .slice none 0 0, Nat.zero_le _, rfl, G0, U1, R1, B1, Z1, sT, fun g off _ h => by simp [Value.ownBlock] at h⟩
  case round =>
    obtain ⟨k, v, hk, rfl, hG, U, R, B, Z, hS, hne⟩ := hrel
    clear G0 U1 R1 B1 Z1 sT
    obtain ⟨la, lc, hv⟩ : ∃ a c, v = .slice a (cP xs k).length c := by
      rcases U.row.2 with ⟨h', h0'⟩ | ⟨g, c, cur, h', _⟩
      · exact ⟨none, 0, by rw [h', h0']⟩
      · exact ⟨_, _, h'⟩
    subst hv
    by_cases hlt : k < T.length
    · have qk : (k : Int) < (T.length : Int) := by omega
      obtain ⟨g, off, e, hg, dl⟩ := hS.2 k hlt
      have hx := hxT k hlt
      have hxz := hls k hlt
      clear hxT hls hEnd
      obtain ⟨x, hxe⟩ : ∃ x, T.getD k ByteArray.empty = x := ⟨_, rfl⟩
      rw [hxe] at dl hx hxz
      clear hxe
      have hU := fun w => l6UnlineC x w hxz
      have hO := fun wd => st_open (x := x) (wd := wd)
      have hM := fun wd => st_miss (x := x) (wd := wd)
      have hH := fun wd v => st_hit (x := x) (wd := wd) (v := v)
      have hYz := Nat.le_trans (unT_size x) hxz
      rw [← hx] at hO hM hH
      obtain ⟨Y, hY⟩ : ∃ Y, unT x = Y := ⟨_, rfl⟩
      obtain ⟨E, hE⟩ : ∃ E, endB x = E := ⟨_, rfl⟩
      rw [hY, hE] at hU
      rw [hY] at hYz
      simp only [hY, hE] at hO hM hH
      clear hY hE hx
      subst e
      rcases cases4 k T.length h3' hlt with hk4 | hk4 | hk4 | hk4
      · have qa : ((k : Int) == 0) = true := by simp; omega
        have qb : ((k : Int) == (T.length : Int) - 2) = false := by simp; omega
        have qc : ((k : Int) == (T.length : Int) - 1) = false := by simp; omega
        have HK := Hid.mk4 hk4
        clear hk4
        have hW : wOf xs.length k = wTree := by rw [HK.out]; exact w_tree H3.out
        have hO' := hO wTree
        have hM' := hM wTree
        have hH' := hH wTree
        rw [← hW] at hO' hM' hH'
        have bad : stW (wOf xs.length k).data.toList (xs.getD k []) = none → Hid _ := fun h => hBad (cG_bad (by rw [← HX.out]; exact hlt) h)
        have step : ∀ v : ByteArray, stW (wOf xs.length k).data.toList (xs.getD k []) = some v.data.toList → cT xs (k + 1) = v ∧ cP xs (k + 1) = cP xs k ∧ cM xs (k + 1) = cM xs k ∧ cN xs (k + 1) = cN xs k := fun v h => by obtain rfl := HK.out; exact step_tree H3.out h
        have hA := fun w => l6AfterC Y wTree w (by decide)
        rw [hW] at hM' hH'
        clear hO hM hH
        unfold wTree at hA
        go_wp2_with fail
        refine (hU _).mono ?_; rintro e w2' ⟨rfl, rfl⟩
        clear hU
        go_wp2_with fail
        refine (hA _).mono ?_; rintro e w2 ⟨b2, hAF⟩
        replace U := U.below (by omega) b2
        replace R := R.below (by omega) b2
        replace B : Below b w w2 := B.trans (b2.mono (by omega))
        replace hS := hS.below b2
        have Z2 : b + 2 ≤ w2.heap.size := Nat.le_trans Z b2.size
        clear hA b2 Z dl hg
        rcases hAF with ⟨x1, rfl, hx1⟩ | ⟨rfl, hx1⟩
        rotate_left
        · have HD := bad (by
            cases E with
            | true => rw [hW]; exact hM' rfl hx1
            | false => exact hO' rfl)
          clear bad hO' hM' hH' hx1 step hBad hW hS hG hne hgA
          cases E
          · have c0 := U.blk.at_ 0 _ rfl
            have c1 := U.blk.at_ 1 _ rfl
            have c2 := U.blk.at_ 2 _ rfl
            have c3 := U.blk.at_ 3 _ rfl
            have d0 := R.at_ 0 _ rfl
            have d1 := R.at_ 1 _ rfl
            have d2 := R.at_ 2 _ rfl
            have d3 := R.at_ 3 _ rfl
            have f0 := R.fz 0
            have f1 := R.fz 1
            have f2 := R.fz 2
            have f3 := R.fz 3
            have HB : ∀ x0 x1 x2 x3, Hid (Below b w ((((w2.setCell ⟨b, 0, none⟩ x0).setCell ⟨b, 1, none⟩ x1).setCell ⟨b, 2, none⟩ x2).setCell ⟨b, 3, none⟩ x3)) := fun _ _ _ _ => setBelow (setBelow (setBelow (setBelow B (Nat.le_refl _)) (Nat.le_refl _)) (Nat.le_refl _)) (Nat.le_refl _)
            clear U R B
            obtain ⟨cT0, hcT⟩ : ∃ y, cT xs k = y := ⟨_, rfl⟩
            obtain ⟨cM0, hcM⟩ : ∃ y, cM xs k = y := ⟨_, rfl⟩
            obtain ⟨cN0, hcN⟩ : ∃ y, cN xs k = y := ⟨_, rfl⟩
            obtain ⟨cL0, hcL⟩ : ∃ y, (cP xs k).length = y := ⟨_, rfl⟩
            rw [hcT] at c0
            rw [hcL] at c1
            rw [hcM] at c2
            rw [hcN] at c3
            clear hcT hcM hcN hcL
            go_wp2
            refine bodyPost_ret (v := .tuple #[.agg #[.string cT0, .slice la cL0 lc, .int .i64 cM0, .string cN0], .bool false]) (by simp [results, Tryz.results29, go_sem, d0, d1, d2, d3]) rfl ?_
            rw [hb]
            exact ⟨(HB _ _ _ _).out, .inr ⟨HD.out, _, _, _, _, _, _, rfl⟩⟩
          · have c0 := U.blk.at_ 0 _ rfl
            have c1 := U.blk.at_ 1 _ rfl
            have c2 := U.blk.at_ 2 _ rfl
            have c3 := U.blk.at_ 3 _ rfl
            have d0 := R.at_ 0 _ rfl
            have d1 := R.at_ 1 _ rfl
            have d2 := R.at_ 2 _ rfl
            have d3 := R.at_ 3 _ rfl
            have f0 := R.fz 0
            have f1 := R.fz 1
            have f2 := R.fz 2
            have f3 := R.fz 3
            have HB : ∀ x0 x1 x2 x3, Hid (Below b w ((((w2.setCell ⟨b, 0, none⟩ x0).setCell ⟨b, 1, none⟩ x1).setCell ⟨b, 2, none⟩ x2).setCell ⟨b, 3, none⟩ x3)) := fun _ _ _ _ => setBelow (setBelow (setBelow (setBelow B (Nat.le_refl _)) (Nat.le_refl _)) (Nat.le_refl _)) (Nat.le_refl _)
            clear U R B
            obtain ⟨cT0, hcT⟩ : ∃ y, cT xs k = y := ⟨_, rfl⟩
            obtain ⟨cM0, hcM⟩ : ∃ y, cM xs k = y := ⟨_, rfl⟩
            obtain ⟨cN0, hcN⟩ : ∃ y, cN xs k = y := ⟨_, rfl⟩
            obtain ⟨cL0, hcL⟩ : ∃ y, (cP xs k).length = y := ⟨_, rfl⟩
            rw [hcT] at c0
            rw [hcL] at c1
            rw [hcM] at c2
            rw [hcN] at c3
            clear hcT hcM hcN hcL
            go_wp2
            refine bodyPost_ret (v := .tuple #[.agg #[.string cT0, .slice la cL0 lc, .int .i64 cM0, .string cN0], .bool false]) (by simp [results, Tryz.results29, go_sem, d0, d1, d2, d3]) rfl ?_
            rw [hb]
            exact ⟨(HB _ _ _ _).out, .inr ⟨HD.out, _, _, _, _, _, _, rfl⟩⟩
        cases E with
        | false =>
          have HD := bad (hO' rfl)
          clear bad hO' hM' hH' hx1 step hBad hW hS hG hne hgA
          have c0 := U.blk.at_ 0 _ rfl
          have c1 := U.blk.at_ 1 _ rfl
          have c2 := U.blk.at_ 2 _ rfl
          have c3 := U.blk.at_ 3 _ rfl
          have d0 := R.at_ 0 _ rfl
          have d1 := R.at_ 1 _ rfl
          have d2 := R.at_ 2 _ rfl
          have d3 := R.at_ 3 _ rfl
          have f0 := R.fz 0
          have f1 := R.fz 1
          have f2 := R.fz 2
          have f3 := R.fz 3
          have HB : ∀ x0 x1 x2 x3, Hid (Below b w ((((w2.setCell ⟨b, 0, none⟩ x0).setCell ⟨b, 1, none⟩ x1).setCell ⟨b, 2, none⟩ x2).setCell ⟨b, 3, none⟩ x3)) := fun _ _ _ _ => setBelow (setBelow (setBelow (setBelow B (Nat.le_refl _)) (Nat.le_refl _)) (Nat.le_refl _)) (Nat.le_refl _)
          clear U R B
          obtain ⟨cT0, hcT⟩ : ∃ y, cT xs k = y := ⟨_, rfl⟩
          obtain ⟨cM0, hcM⟩ : ∃ y, cM xs k = y := ⟨_, rfl⟩
          obtain ⟨cN0, hcN⟩ : ∃ y, cN xs k = y := ⟨_, rfl⟩
          obtain ⟨cL0, hcL⟩ : ∃ y, (cP xs k).length = y := ⟨_, rfl⟩
          rw [hcT] at c0
          rw [hcL] at c1
          rw [hcM] at c2
          rw [hcN] at c3
          clear hcT hcM hcN hcL
          go_wp2
          refine bodyPost_ret (v := .tuple #[.agg #[.string cT0, .slice la cL0 lc, .int .i64 cM0, .string cN0], .bool false]) (by simp [results, Tryz.results29, go_sem, d0, d1, d2, d3]) rfl ?_
          rw [hb]
          exact ⟨(HB _ _ _ _).out, .inr ⟨HD.out, _, _, _, _, _, _, rfl⟩⟩
        | true =>
          have hst := hH' x1 rfl hx1
          rw [← hW] at hst
          have hxs1 : x1.size ≤ 1048576 := by
            have := congrArg List.length hx1
            simp only [List.length_append, List.length_cons, List.length_nil, size_eq] at this
            omega
          clear bad hO' hM' hH' hx1 hW
          obtain ⟨e1, e2, e3, e4⟩ := step x1 hst
          have G1 : Hid (cG xs (k + 1)) := cG_step H3.out hG.out hst (fun h => by rw [← HX.out] at h; have := HK.out; omega)
          have UU : Hid (UR xs (k + 1) b (.slice la (cP xs k).length lc) (w2.setCell ⟨b + 1, 0, none⟩ (.string x1))) := UR.next U (by decide) (by decide) (by simp [e1, e3, e4]) e2
          have RR : Hid (Rf (w2.setCell ⟨b + 1, 0, none⟩ (.string x1)) b _) := R.other (by omega) _
          have BB : Hid (Below b w (w2.setCell ⟨b + 1, 0, none⟩ (.string x1))) := setBelow B (by omega)
          have SX : Hid (SS (w2.setCell ⟨b + 1, 0, none⟩ (.string x1)) (some ⟨g, off, none⟩) T) := SS.setOther hS (fun g1 o1 e => by have := hgA g1 o1 e; omega)
          have ZZ : b + 2 ≤ (w2.setCell ⟨b + 1, 0, none⟩ (.string x1)).heap.size := by simpa using Z2
          have c0 := U.blk.at_ 0 _ rfl
          have f0 := U.blk.fz 0
          clear step hst e1 e2 e3 e4 U R B hS hG hBad Z2
          go_wp2
          go_roundw
          case rel => exact ⟨k + 1, _, by omega, by go_num, G1, UU.out, RR.out, BB.out, ZZ, SX.out, hne⟩
          case measure => first | (simp [intOf]; omega) | simp [intOf]
      · have qa : ((k : Int) == 0) = false := by simp; omega
        have qb : ((k : Int) == (T.length : Int) - 2) = false := by simp; omega
        have qc : ((k : Int) == (T.length : Int) - 1) = false := by simp; omega
        have HK := Hid.mk4 hk4
        clear hk4
        have hW : wOf xs.length k = wPar := w_par HK.out.1 (by rw [← HX.out]; exact HK.out.2)
        have hO' := hO wPar
        have hM' := hM wPar
        have hH' := hH wPar
        rw [← hW] at hO' hM' hH'
        have bad : stW (wOf xs.length k).data.toList (xs.getD k []) = none → Hid _ := fun h => hBad (cG_bad (by rw [← HX.out]; exact hlt) h)
        have step : ∀ v : ByteArray, stW (wOf xs.length k).data.toList (xs.getD k []) = some v.data.toList → cT xs (k + 1) = cT xs k ∧ cP xs (k + 1) = cP xs k ++ [v] ∧ cM xs (k + 1) = cM xs k ∧ cN xs (k + 1) = cN xs k := fun v h => step_par HK.out.1 (by rw [← HX.out]; exact HK.out.2) h
        have hA := fun w => l6AfterC Y wPar w (by decide)
        rw [hW] at hM' hH'
        clear hO hM hH
        unfold wPar at hA
        go_wp2_with fail
        refine (hU _).mono ?_; rintro e w2' ⟨rfl, rfl⟩
        clear hU
        go_wp2_with fail
        refine (hA _).mono ?_; rintro e w2 ⟨b2, hAF⟩
        replace U := U.below (by omega) b2
        replace R := R.below (by omega) b2
        replace B : Below b w w2 := B.trans (b2.mono (by omega))
        replace hS := hS.below b2
        have Z2 : b + 2 ≤ w2.heap.size := Nat.le_trans Z b2.size
        clear hA b2 Z dl hg
        rcases hAF with ⟨x1, rfl, hx1⟩ | ⟨rfl, hx1⟩
        rotate_left
        · have HD := bad (by
            cases E with
            | true => rw [hW]; exact hM' rfl hx1
            | false => exact hO' rfl)
          clear bad hO' hM' hH' hx1 step hBad hW hS hG hne hgA
          cases E
          · have c0 := U.blk.at_ 0 _ rfl
            have c1 := U.blk.at_ 1 _ rfl
            have c2 := U.blk.at_ 2 _ rfl
            have c3 := U.blk.at_ 3 _ rfl
            have d0 := R.at_ 0 _ rfl
            have d1 := R.at_ 1 _ rfl
            have d2 := R.at_ 2 _ rfl
            have d3 := R.at_ 3 _ rfl
            have f0 := R.fz 0
            have f1 := R.fz 1
            have f2 := R.fz 2
            have f3 := R.fz 3
            have HB : ∀ x0 x1 x2 x3, Hid (Below b w ((((w2.setCell ⟨b, 0, none⟩ x0).setCell ⟨b, 1, none⟩ x1).setCell ⟨b, 2, none⟩ x2).setCell ⟨b, 3, none⟩ x3)) := fun _ _ _ _ => setBelow (setBelow (setBelow (setBelow B (Nat.le_refl _)) (Nat.le_refl _)) (Nat.le_refl _)) (Nat.le_refl _)
            clear U R B
            obtain ⟨cT0, hcT⟩ : ∃ y, cT xs k = y := ⟨_, rfl⟩
            obtain ⟨cM0, hcM⟩ : ∃ y, cM xs k = y := ⟨_, rfl⟩
            obtain ⟨cN0, hcN⟩ : ∃ y, cN xs k = y := ⟨_, rfl⟩
            obtain ⟨cL0, hcL⟩ : ∃ y, (cP xs k).length = y := ⟨_, rfl⟩
            rw [hcT] at c0
            rw [hcL] at c1
            rw [hcM] at c2
            rw [hcN] at c3
            clear hcT hcM hcN hcL
            go_wp2
            refine bodyPost_ret (v := .tuple #[.agg #[.string cT0, .slice la cL0 lc, .int .i64 cM0, .string cN0], .bool false]) (by simp [results, Tryz.results29, go_sem, d0, d1, d2, d3]) rfl ?_
            rw [hb]
            exact ⟨(HB _ _ _ _).out, .inr ⟨HD.out, _, _, _, _, _, _, rfl⟩⟩
          · have c0 := U.blk.at_ 0 _ rfl
            have c1 := U.blk.at_ 1 _ rfl
            have c2 := U.blk.at_ 2 _ rfl
            have c3 := U.blk.at_ 3 _ rfl
            have d0 := R.at_ 0 _ rfl
            have d1 := R.at_ 1 _ rfl
            have d2 := R.at_ 2 _ rfl
            have d3 := R.at_ 3 _ rfl
            have f0 := R.fz 0
            have f1 := R.fz 1
            have f2 := R.fz 2
            have f3 := R.fz 3
            have HB : ∀ x0 x1 x2 x3, Hid (Below b w ((((w2.setCell ⟨b, 0, none⟩ x0).setCell ⟨b, 1, none⟩ x1).setCell ⟨b, 2, none⟩ x2).setCell ⟨b, 3, none⟩ x3)) := fun _ _ _ _ => setBelow (setBelow (setBelow (setBelow B (Nat.le_refl _)) (Nat.le_refl _)) (Nat.le_refl _)) (Nat.le_refl _)
            clear U R B
            obtain ⟨cT0, hcT⟩ : ∃ y, cT xs k = y := ⟨_, rfl⟩
            obtain ⟨cM0, hcM⟩ : ∃ y, cM xs k = y := ⟨_, rfl⟩
            obtain ⟨cN0, hcN⟩ : ∃ y, cN xs k = y := ⟨_, rfl⟩
            obtain ⟨cL0, hcL⟩ : ∃ y, (cP xs k).length = y := ⟨_, rfl⟩
            rw [hcT] at c0
            rw [hcL] at c1
            rw [hcM] at c2
            rw [hcN] at c3
            clear hcT hcM hcN hcL
            go_wp2
            refine bodyPost_ret (v := .tuple #[.agg #[.string cT0, .slice la cL0 lc, .int .i64 cM0, .string cN0], .bool false]) (by simp [results, Tryz.results29, go_sem, d0, d1, d2, d3]) rfl ?_
            rw [hb]
            exact ⟨(HB _ _ _ _).out, .inr ⟨HD.out, _, _, _, _, _, _, rfl⟩⟩
        cases E with
        | false =>
          have HD := bad (hO' rfl)
          clear bad hO' hM' hH' hx1 step hBad hW hS hG hne hgA
          have c0 := U.blk.at_ 0 _ rfl
          have c1 := U.blk.at_ 1 _ rfl
          have c2 := U.blk.at_ 2 _ rfl
          have c3 := U.blk.at_ 3 _ rfl
          have d0 := R.at_ 0 _ rfl
          have d1 := R.at_ 1 _ rfl
          have d2 := R.at_ 2 _ rfl
          have d3 := R.at_ 3 _ rfl
          have f0 := R.fz 0
          have f1 := R.fz 1
          have f2 := R.fz 2
          have f3 := R.fz 3
          have HB : ∀ x0 x1 x2 x3, Hid (Below b w ((((w2.setCell ⟨b, 0, none⟩ x0).setCell ⟨b, 1, none⟩ x1).setCell ⟨b, 2, none⟩ x2).setCell ⟨b, 3, none⟩ x3)) := fun _ _ _ _ => setBelow (setBelow (setBelow (setBelow B (Nat.le_refl _)) (Nat.le_refl _)) (Nat.le_refl _)) (Nat.le_refl _)
          clear U R B
          obtain ⟨cT0, hcT⟩ : ∃ y, cT xs k = y := ⟨_, rfl⟩
          obtain ⟨cM0, hcM⟩ : ∃ y, cM xs k = y := ⟨_, rfl⟩
          obtain ⟨cN0, hcN⟩ : ∃ y, cN xs k = y := ⟨_, rfl⟩
          obtain ⟨cL0, hcL⟩ : ∃ y, (cP xs k).length = y := ⟨_, rfl⟩
          rw [hcT] at c0
          rw [hcL] at c1
          rw [hcM] at c2
          rw [hcN] at c3
          clear hcT hcM hcN hcL
          go_wp2
          refine bodyPost_ret (v := .tuple #[.agg #[.string cT0, .slice la cL0 lc, .int .i64 cM0, .string cN0], .bool false]) (by simp [results, Tryz.results29, go_sem, d0, d1, d2, d3]) rfl ?_
          rw [hb]
          exact ⟨(HB _ _ _ _).out, .inr ⟨HD.out, _, _, _, _, _, _, rfl⟩⟩
        | true =>
          have hst := hH' x1 rfl hx1
          rw [← hW] at hst
          have hxs1 : x1.size ≤ 1048576 := by
            have := congrArg List.length hx1
            simp only [List.length_append, List.length_cons, List.length_nil, size_eq] at this
            omega
          clear bad hO' hM' hH' hx1 hW
          have est := step x1 hst
          have G1 : Hid (cG xs (k + 1)) := cG_step H3.out hG.out hst (fun h => by rw [← HX.out] at h; have := HK.out; omega)
          have hPl : (cP xs k).length ≤ 1048576 := by have := cP_len xs k; rw [← HX.out] at this; omega
          have c0 := U.blk.at_ 1 _ rfl
          have own2 := U.row
          clear step hst hBad hG
          go_wp2_with (at_builtin; refine wpList_append_own_at _ rfl (.tmp 69) (.tmp 71) 22 rfl (b + 2) 9 i0 (.string ByteArray.empty) 1 16 Tryz.underlying22 hi hz0 hz1 hz2 rfl (by decide) (.slice la (cP xs k).length lc) _ _ rfl (own2.alloc _) ⟨w2.heap.size, 0, none⟩ 1 1 [.string x1] rfl rfl (cell_one _ _ _) (by simp [Value.oneCell']) (by unfold maxLen; omega) (by omega) (by simp; omega) ?_; intro v' w4 hown' hgrow _ hwhere; obtain ⟨g', cap', rfl⟩ := ownsRow_succ hown'; have hrow : (Value.slice la (cP xs k).length lc).ownBlock ≠ some (b + 1) := fun q => absurd (own2.lt (b + 1) q).1 (by omega); have hrow0 : (Value.slice la (cP xs k).length lc).ownBlock ≠ some b := fun q => absurd (own2.lt b q).1 (by omega); have U4 : Rf w4 (b + 1) _ := Rf.keptBy (U.blk.below (by omega) (allocBelow w2 (.cells #[.string x1] 9))) hgrow (by simp; omega) hrow; have c4 := U4.at_ 1 _ rfl; have f4 := U4.fz 1)
          have R4 := Rf.keptBy (R.below (by omega) (allocBelow w2 (.cells #[.string x1] 9))) hgrow (by simp; omega) hrow0
          have B4 : Below b w w4 := (B.alloc (by omega) _).grown hgrow (by simp; omega) (fun j hj => by have := (own2.lt j hj).1; omega)
          have S4 := SS.keptBy (hS.below (allocBelow w2 (.cells #[.string x1] 9))) hgrow (fun g1 o1 e q => hne g1 o1 e q)
          have Z4 : b + 2 ≤ w4.heap.size := by have := hgrow.size; simp at this; omega
          have hgS : ∀ g1 o1, some (⟨g, off, none⟩ : Addr) = some ⟨g1, o1, none⟩ → g1 < w2.heap.size := fun g1 o1 e => by
            obtain ⟨bb, off', e', hb', _⟩ := hS.2 k hlt
            simp only [Option.some.injEq, Addr.mk.injEq, and_true] at e e'
            omega
          have hne4 : ∀ g1 o1, some (⟨g, off, none⟩ : Addr) = some ⟨g1, o1, none⟩ → (Value.slice (some ⟨g', 0, none⟩) ((cP xs k).length + 1) cap').ownBlock ≠ some g1 := fun g1 o1 e q => by
            rcases hwhere with h1 | h1
            · exact hne g1 o1 e (h1 ▸ q)
            · rw [h1] at q
              have := hgS g1 o1 e
              simp only [Option.some.injEq, World.size_alloc] at q
              omega
          have UU : Hid (UR xs (k + 1) b (.slice (some ⟨g', 0, none⟩) ((cP xs k).length + 1) cap') (w4.setCell ⟨b + 1, 1, none⟩ (.slice (some ⟨g', 0, none⟩) ((cP xs k).length + 1) cap'))) := UR.push U4 hown' est
          have RR : Hid (Rf (w4.setCell ⟨b + 1, 1, none⟩ (.slice (some ⟨g', 0, none⟩) ((cP xs k).length + 1) cap')) b _) := R4.other (by omega) _
          have BB : Hid (Below b w (w4.setCell ⟨b + 1, 1, none⟩ (.slice (some ⟨g', 0, none⟩) ((cP xs k).length + 1) cap'))) := setBelow B4 (by omega)
          have SX : Hid (SS (w4.setCell ⟨b + 1, 1, none⟩ (.slice (some ⟨g', 0, none⟩) ((cP xs k).length + 1) cap')) (some ⟨g, off, none⟩) T) := SS.setOther S4 (fun g1 o1 e => by have := hgA g1 o1 e; omega)
          have ZZ : b + 2 ≤ (w4.setCell ⟨b + 1, 1, none⟩ (.slice (some ⟨g', 0, none⟩) ((cP xs k).length + 1) cap')).heap.size := by simpa using Z4
          have HN : Hid (∀ g1 o1, some (⟨g, off, none⟩ : Addr) = some ⟨g1, o1, none⟩ → (Value.slice (some ⟨g', 0, none⟩) ((cP xs k).length + 1) cap').ownBlock ≠ some g1) := hne4
          clear U R B hS hne U4 R4 B4 S4 Z4 hgS hne4 hown' hgrow hwhere own2 c0 hrow hrow0 est Z2
          go_roundw
          case rel => exact ⟨k + 1, _, by omega, by go_num, G1, UU.out, RR.out, BB.out, ZZ, SX.out, HN.out⟩
          case measure => first | (simp [intOf]; omega) | simp [intOf]
      · have qa : ((k : Int) == 0) = false := by simp; omega
        have qb : ((k : Int) == (T.length : Int) - 2) = true := by simp; omega
        have qc : ((k : Int) == (T.length : Int) - 1) = false := by simp; omega
        have HK := Hid.mk4 hk4
        clear hk4
        have hW : wOf xs.length k = wTime := w_time (by rw [← HX.out]; exact HK.out)
        have hO' := hO wTime
        have hM' := hM wTime
        have hH' := hH wTime
        rw [← hW] at hO' hM' hH'
        have bad : stW (wOf xs.length k).data.toList (xs.getD k []) = none → Hid _ := fun h => hBad (cG_bad (by rw [← HX.out]; exact hlt) h)
        have step : ∀ (v : ByteArray) (n : Int), stW (wOf xs.length k).data.toList (xs.getD k []) = some v.data.toList → tI v.data.toList = some n → cT xs (k + 1) = cT xs k ∧ cP xs (k + 1) = cP xs k ∧ cM xs (k + 1) = n ∧ cN xs (k + 1) = cN xs k := fun v n h ht => step_time (by have := HK.out; omega) (by rw [← HX.out]; exact HK.out) h ht
        have badT : ∀ v : ByteArray, stW (wOf xs.length k).data.toList (xs.getD k []) = some v.data.toList → tI v.data.toList = none → Hid _ := fun v h ht => hBad (cG_time (by rw [← HX.out]; exact HK.out) h ht)
        have hA := fun w => l6AfterC Y wTime w (by decide)
        rw [hW] at hM' hH'
        clear hO hM hH
        unfold wTime at hA
        go_wp2_with fail
        refine (hU _).mono ?_; rintro e w2' ⟨rfl, rfl⟩
        clear hU
        go_wp2_with fail
        refine (hA _).mono ?_; rintro e w2 ⟨b2, hAF⟩
        replace U := U.below (by omega) b2
        replace R := R.below (by omega) b2
        replace B : Below b w w2 := B.trans (b2.mono (by omega))
        replace hS := hS.below b2
        have Z2 : b + 2 ≤ w2.heap.size := Nat.le_trans Z b2.size
        clear hA b2 Z dl hg
        rcases hAF with ⟨x1, rfl, hx1⟩ | ⟨rfl, hx1⟩
        rotate_left
        · have HD := bad (by
            cases E with
            | true => rw [hW]; exact hM' rfl hx1
            | false => exact hO' rfl)
          clear bad hO' hM' hH' hx1 step badT hBad hW hS hG hne hgA
          cases E
          · have c0 := U.blk.at_ 0 _ rfl
            have c1 := U.blk.at_ 1 _ rfl
            have c2 := U.blk.at_ 2 _ rfl
            have c3 := U.blk.at_ 3 _ rfl
            have d0 := R.at_ 0 _ rfl
            have d1 := R.at_ 1 _ rfl
            have d2 := R.at_ 2 _ rfl
            have d3 := R.at_ 3 _ rfl
            have f0 := R.fz 0
            have f1 := R.fz 1
            have f2 := R.fz 2
            have f3 := R.fz 3
            have HB : ∀ x0 x1 x2 x3, Hid (Below b w ((((w2.setCell ⟨b, 0, none⟩ x0).setCell ⟨b, 1, none⟩ x1).setCell ⟨b, 2, none⟩ x2).setCell ⟨b, 3, none⟩ x3)) := fun _ _ _ _ => setBelow (setBelow (setBelow (setBelow B (Nat.le_refl _)) (Nat.le_refl _)) (Nat.le_refl _)) (Nat.le_refl _)
            clear U R B
            obtain ⟨cT0, hcT⟩ : ∃ y, cT xs k = y := ⟨_, rfl⟩
            obtain ⟨cM0, hcM⟩ : ∃ y, cM xs k = y := ⟨_, rfl⟩
            obtain ⟨cN0, hcN⟩ : ∃ y, cN xs k = y := ⟨_, rfl⟩
            obtain ⟨cL0, hcL⟩ : ∃ y, (cP xs k).length = y := ⟨_, rfl⟩
            rw [hcT] at c0
            rw [hcL] at c1
            rw [hcM] at c2
            rw [hcN] at c3
            clear hcT hcM hcN hcL
            go_wp2
            refine bodyPost_ret (v := .tuple #[.agg #[.string cT0, .slice la cL0 lc, .int .i64 cM0, .string cN0], .bool false]) (by simp [results, Tryz.results29, go_sem, d0, d1, d2, d3]) rfl ?_
            rw [hb]
            exact ⟨(HB _ _ _ _).out, .inr ⟨HD.out, _, _, _, _, _, _, rfl⟩⟩
          · have c0 := U.blk.at_ 0 _ rfl
            have c1 := U.blk.at_ 1 _ rfl
            have c2 := U.blk.at_ 2 _ rfl
            have c3 := U.blk.at_ 3 _ rfl
            have d0 := R.at_ 0 _ rfl
            have d1 := R.at_ 1 _ rfl
            have d2 := R.at_ 2 _ rfl
            have d3 := R.at_ 3 _ rfl
            have f0 := R.fz 0
            have f1 := R.fz 1
            have f2 := R.fz 2
            have f3 := R.fz 3
            have HB : ∀ x0 x1 x2 x3, Hid (Below b w ((((w2.setCell ⟨b, 0, none⟩ x0).setCell ⟨b, 1, none⟩ x1).setCell ⟨b, 2, none⟩ x2).setCell ⟨b, 3, none⟩ x3)) := fun _ _ _ _ => setBelow (setBelow (setBelow (setBelow B (Nat.le_refl _)) (Nat.le_refl _)) (Nat.le_refl _)) (Nat.le_refl _)
            clear U R B
            obtain ⟨cT0, hcT⟩ : ∃ y, cT xs k = y := ⟨_, rfl⟩
            obtain ⟨cM0, hcM⟩ : ∃ y, cM xs k = y := ⟨_, rfl⟩
            obtain ⟨cN0, hcN⟩ : ∃ y, cN xs k = y := ⟨_, rfl⟩
            obtain ⟨cL0, hcL⟩ : ∃ y, (cP xs k).length = y := ⟨_, rfl⟩
            rw [hcT] at c0
            rw [hcL] at c1
            rw [hcM] at c2
            rw [hcN] at c3
            clear hcT hcM hcN hcL
            go_wp2
            refine bodyPost_ret (v := .tuple #[.agg #[.string cT0, .slice la cL0 lc, .int .i64 cM0, .string cN0], .bool false]) (by simp [results, Tryz.results29, go_sem, d0, d1, d2, d3]) rfl ?_
            rw [hb]
            exact ⟨(HB _ _ _ _).out, .inr ⟨HD.out, _, _, _, _, _, _, rfl⟩⟩
        cases E with
        | false =>
          have HD := bad (hO' rfl)
          clear bad hO' hM' hH' hx1 step badT hBad hW hS hG hne hgA
          have c0 := U.blk.at_ 0 _ rfl
          have c1 := U.blk.at_ 1 _ rfl
          have c2 := U.blk.at_ 2 _ rfl
          have c3 := U.blk.at_ 3 _ rfl
          have d0 := R.at_ 0 _ rfl
          have d1 := R.at_ 1 _ rfl
          have d2 := R.at_ 2 _ rfl
          have d3 := R.at_ 3 _ rfl
          have f0 := R.fz 0
          have f1 := R.fz 1
          have f2 := R.fz 2
          have f3 := R.fz 3
          have HB : ∀ x0 x1 x2 x3, Hid (Below b w ((((w2.setCell ⟨b, 0, none⟩ x0).setCell ⟨b, 1, none⟩ x1).setCell ⟨b, 2, none⟩ x2).setCell ⟨b, 3, none⟩ x3)) := fun _ _ _ _ => setBelow (setBelow (setBelow (setBelow B (Nat.le_refl _)) (Nat.le_refl _)) (Nat.le_refl _)) (Nat.le_refl _)
          clear U R B
          obtain ⟨cT0, hcT⟩ : ∃ y, cT xs k = y := ⟨_, rfl⟩
          obtain ⟨cM0, hcM⟩ : ∃ y, cM xs k = y := ⟨_, rfl⟩
          obtain ⟨cN0, hcN⟩ : ∃ y, cN xs k = y := ⟨_, rfl⟩
          obtain ⟨cL0, hcL⟩ : ∃ y, (cP xs k).length = y := ⟨_, rfl⟩
          rw [hcT] at c0
          rw [hcL] at c1
          rw [hcM] at c2
          rw [hcN] at c3
          clear hcT hcM hcN hcL
          go_wp2
          refine bodyPost_ret (v := .tuple #[.agg #[.string cT0, .slice la cL0 lc, .int .i64 cM0, .string cN0], .bool false]) (by simp [results, Tryz.results29, go_sem, d0, d1, d2, d3]) rfl ?_
          rw [hb]
          exact ⟨(HB _ _ _ _).out, .inr ⟨HD.out, _, _, _, _, _, _, rfl⟩⟩
        | true =>
          have hst := hH' x1 rfl hx1
          rw [← hW] at hst
          have hxs1 : x1.size ≤ 1048576 := by
            have := congrArg List.length hx1
            simp only [List.length_append, List.length_cons, List.length_nil, size_eq] at this
            omega
          clear bad hO' hM' hH' hx1 hW
          have hTm := fun w => l6TimeC x1 w hxs1
          go_wp2_with fail
          refine (hTm _).mono ?_; rintro e w3 ⟨b3, hTM⟩
          replace U := U.below (by omega) b3
          replace R := R.below (by omega) b3
          replace B : Below b w w3 := B.trans (b3.mono (by omega))
          replace hS := hS.below b3
          replace Z2 : b + 2 ≤ w3.heap.size := Nat.le_trans Z2 b3.size
          clear hTm b3
          rcases hTM with ⟨n1, hn1, rfl⟩ | ⟨hn1, n1, rfl⟩
          · obtain ⟨e1, e2, e3, e4⟩ := step x1 n1 hst hn1
            have G1 : Hid (cG xs (k + 1)) := cG_step H3.out hG.out hst (fun _ => by rw [hn1]; rfl)
            have UU : Hid (UR xs (k + 1) b (.slice la (cP xs k).length lc) (w3.setCell ⟨b + 1, 2, none⟩ (.int .i64 n1))) := UR.next U (by decide) (by decide) (by simp [e1, e3, e4]) e2
            have RR : Hid (Rf (w3.setCell ⟨b + 1, 2, none⟩ (.int .i64 n1)) b _) := R.other (by omega) _
            have BB : Hid (Below b w (w3.setCell ⟨b + 1, 2, none⟩ (.int .i64 n1))) := setBelow B (by omega)
            have SX : Hid (SS (w3.setCell ⟨b + 1, 2, none⟩ (.int .i64 n1)) (some ⟨g, off, none⟩) T) := SS.setOther hS (fun g1 o1 e => by have := hgA g1 o1 e; omega)
            have ZZ : b + 2 ≤ (w3.setCell ⟨b + 1, 2, none⟩ (.int .i64 n1)).heap.size := by simpa using Z2
            have c0 := U.blk.at_ 2 _ rfl
            have f0 := U.blk.fz 2
            clear step badT hn1 hst e1 e2 e3 e4 U R B hS hG hBad Z2
            go_wp2
            go_roundw
            case rel => exact ⟨k + 1, _, by omega, by go_num, G1, UU.out, RR.out, BB.out, ZZ, SX.out, hne⟩
            case measure => first | (simp [intOf]; omega) | simp [intOf]
          · have HD := badT x1 hst hn1
            clear step badT hst hn1 hBad hS hG hne hgA
            have c0 := U.blk.at_ 0 _ rfl
            have c1 := U.blk.at_ 1 _ rfl
            have c2 := U.blk.at_ 2 _ rfl
            have c3 := U.blk.at_ 3 _ rfl
            have d0 := R.at_ 0 _ rfl
            have d1 := R.at_ 1 _ rfl
            have d2 := R.at_ 2 _ rfl
            have d3 := R.at_ 3 _ rfl
            have f0 := R.fz 0
            have f1 := R.fz 1
            have f2 := R.fz 2
            have f3 := R.fz 3
            have HB : ∀ x0 x1 x2 x3, Hid (Below b w ((((w3.setCell ⟨b, 0, none⟩ x0).setCell ⟨b, 1, none⟩ x1).setCell ⟨b, 2, none⟩ x2).setCell ⟨b, 3, none⟩ x3)) := fun _ _ _ _ => setBelow (setBelow (setBelow (setBelow B (Nat.le_refl _)) (Nat.le_refl _)) (Nat.le_refl _)) (Nat.le_refl _)
            clear U R B
            obtain ⟨cT0, hcT⟩ : ∃ y, cT xs k = y := ⟨_, rfl⟩
            obtain ⟨cM0, hcM⟩ : ∃ y, cM xs k = y := ⟨_, rfl⟩
            obtain ⟨cN0, hcN⟩ : ∃ y, cN xs k = y := ⟨_, rfl⟩
            obtain ⟨cL0, hcL⟩ : ∃ y, (cP xs k).length = y := ⟨_, rfl⟩
            rw [hcT] at c0
            rw [hcL] at c1
            rw [hcM] at c2
            rw [hcN] at c3
            clear hcT hcM hcN hcL
            go_wp2
            refine bodyPost_ret (v := .tuple #[.agg #[.string cT0, .slice la cL0 lc, .int .i64 cM0, .string cN0], .bool false]) (by simp [results, Tryz.results29, go_sem, d0, d1, d2, d3]) rfl ?_
            rw [hb]
            exact ⟨(HB _ _ _ _).out, .inr ⟨HD.out, _, _, _, _, _, _, rfl⟩⟩
      · have qa : ((k : Int) == 0) = false := by simp; omega
        have qb : ((k : Int) == (T.length : Int) - 2) = false := by simp; omega
        have qc : ((k : Int) == (T.length : Int) - 1) = true := by simp; omega
        have HK := Hid.mk4 hk4
        clear hk4
        have hW : wOf xs.length k = wNote := w_note (by rw [← HX.out]; exact HK.out)
        have hO' := hO wNote
        have hM' := hM wNote
        have hH' := hH wNote
        rw [← hW] at hO' hM' hH'
        have bad : stW (wOf xs.length k).data.toList (xs.getD k []) = none → Hid _ := fun h => hBad (cG_bad (by rw [← HX.out]; exact hlt) h)
        have step : ∀ v : ByteArray, stW (wOf xs.length k).data.toList (xs.getD k []) = some v.data.toList → cT xs (k + 1) = cT xs k ∧ cP xs (k + 1) = cP xs k ∧ cM xs (k + 1) = cM xs k ∧ cN xs (k + 1) = v := fun v h => step_note H3.out (by rw [← HX.out]; exact HK.out) h
        have hA := fun w => l6AfterC Y wNote w (by decide)
        rw [hW] at hM' hH'
        clear hO hM hH
        unfold wNote at hA
        go_wp2_with fail
        refine (hU _).mono ?_; rintro e w2' ⟨rfl, rfl⟩
        clear hU
        go_wp2_with fail
        refine (hA _).mono ?_; rintro e w2 ⟨b2, hAF⟩
        replace U := U.below (by omega) b2
        replace R := R.below (by omega) b2
        replace B : Below b w w2 := B.trans (b2.mono (by omega))
        replace hS := hS.below b2
        have Z2 : b + 2 ≤ w2.heap.size := Nat.le_trans Z b2.size
        clear hA b2 Z dl hg
        rcases hAF with ⟨x1, rfl, hx1⟩ | ⟨rfl, hx1⟩
        rotate_left
        · have HD := bad (by
            cases E with
            | true => rw [hW]; exact hM' rfl hx1
            | false => exact hO' rfl)
          clear bad hO' hM' hH' hx1 step hBad hW hS hG hne hgA
          cases E
          · have c0 := U.blk.at_ 0 _ rfl
            have c1 := U.blk.at_ 1 _ rfl
            have c2 := U.blk.at_ 2 _ rfl
            have c3 := U.blk.at_ 3 _ rfl
            have d0 := R.at_ 0 _ rfl
            have d1 := R.at_ 1 _ rfl
            have d2 := R.at_ 2 _ rfl
            have d3 := R.at_ 3 _ rfl
            have f0 := R.fz 0
            have f1 := R.fz 1
            have f2 := R.fz 2
            have f3 := R.fz 3
            have HB : ∀ x0 x1 x2 x3, Hid (Below b w ((((w2.setCell ⟨b, 0, none⟩ x0).setCell ⟨b, 1, none⟩ x1).setCell ⟨b, 2, none⟩ x2).setCell ⟨b, 3, none⟩ x3)) := fun _ _ _ _ => setBelow (setBelow (setBelow (setBelow B (Nat.le_refl _)) (Nat.le_refl _)) (Nat.le_refl _)) (Nat.le_refl _)
            clear U R B
            obtain ⟨cT0, hcT⟩ : ∃ y, cT xs k = y := ⟨_, rfl⟩
            obtain ⟨cM0, hcM⟩ : ∃ y, cM xs k = y := ⟨_, rfl⟩
            obtain ⟨cN0, hcN⟩ : ∃ y, cN xs k = y := ⟨_, rfl⟩
            obtain ⟨cL0, hcL⟩ : ∃ y, (cP xs k).length = y := ⟨_, rfl⟩
            rw [hcT] at c0
            rw [hcL] at c1
            rw [hcM] at c2
            rw [hcN] at c3
            clear hcT hcM hcN hcL
            go_wp2
            refine bodyPost_ret (v := .tuple #[.agg #[.string cT0, .slice la cL0 lc, .int .i64 cM0, .string cN0], .bool false]) (by simp [results, Tryz.results29, go_sem, d0, d1, d2, d3]) rfl ?_
            rw [hb]
            exact ⟨(HB _ _ _ _).out, .inr ⟨HD.out, _, _, _, _, _, _, rfl⟩⟩
          · have c0 := U.blk.at_ 0 _ rfl
            have c1 := U.blk.at_ 1 _ rfl
            have c2 := U.blk.at_ 2 _ rfl
            have c3 := U.blk.at_ 3 _ rfl
            have d0 := R.at_ 0 _ rfl
            have d1 := R.at_ 1 _ rfl
            have d2 := R.at_ 2 _ rfl
            have d3 := R.at_ 3 _ rfl
            have f0 := R.fz 0
            have f1 := R.fz 1
            have f2 := R.fz 2
            have f3 := R.fz 3
            have HB : ∀ x0 x1 x2 x3, Hid (Below b w ((((w2.setCell ⟨b, 0, none⟩ x0).setCell ⟨b, 1, none⟩ x1).setCell ⟨b, 2, none⟩ x2).setCell ⟨b, 3, none⟩ x3)) := fun _ _ _ _ => setBelow (setBelow (setBelow (setBelow B (Nat.le_refl _)) (Nat.le_refl _)) (Nat.le_refl _)) (Nat.le_refl _)
            clear U R B
            obtain ⟨cT0, hcT⟩ : ∃ y, cT xs k = y := ⟨_, rfl⟩
            obtain ⟨cM0, hcM⟩ : ∃ y, cM xs k = y := ⟨_, rfl⟩
            obtain ⟨cN0, hcN⟩ : ∃ y, cN xs k = y := ⟨_, rfl⟩
            obtain ⟨cL0, hcL⟩ : ∃ y, (cP xs k).length = y := ⟨_, rfl⟩
            rw [hcT] at c0
            rw [hcL] at c1
            rw [hcM] at c2
            rw [hcN] at c3
            clear hcT hcM hcN hcL
            go_wp2
            refine bodyPost_ret (v := .tuple #[.agg #[.string cT0, .slice la cL0 lc, .int .i64 cM0, .string cN0], .bool false]) (by simp [results, Tryz.results29, go_sem, d0, d1, d2, d3]) rfl ?_
            rw [hb]
            exact ⟨(HB _ _ _ _).out, .inr ⟨HD.out, _, _, _, _, _, _, rfl⟩⟩
        cases E with
        | false =>
          have HD := bad (hO' rfl)
          clear bad hO' hM' hH' hx1 step hBad hW hS hG hne hgA
          have c0 := U.blk.at_ 0 _ rfl
          have c1 := U.blk.at_ 1 _ rfl
          have c2 := U.blk.at_ 2 _ rfl
          have c3 := U.blk.at_ 3 _ rfl
          have d0 := R.at_ 0 _ rfl
          have d1 := R.at_ 1 _ rfl
          have d2 := R.at_ 2 _ rfl
          have d3 := R.at_ 3 _ rfl
          have f0 := R.fz 0
          have f1 := R.fz 1
          have f2 := R.fz 2
          have f3 := R.fz 3
          have HB : ∀ x0 x1 x2 x3, Hid (Below b w ((((w2.setCell ⟨b, 0, none⟩ x0).setCell ⟨b, 1, none⟩ x1).setCell ⟨b, 2, none⟩ x2).setCell ⟨b, 3, none⟩ x3)) := fun _ _ _ _ => setBelow (setBelow (setBelow (setBelow B (Nat.le_refl _)) (Nat.le_refl _)) (Nat.le_refl _)) (Nat.le_refl _)
          clear U R B
          obtain ⟨cT0, hcT⟩ : ∃ y, cT xs k = y := ⟨_, rfl⟩
          obtain ⟨cM0, hcM⟩ : ∃ y, cM xs k = y := ⟨_, rfl⟩
          obtain ⟨cN0, hcN⟩ : ∃ y, cN xs k = y := ⟨_, rfl⟩
          obtain ⟨cL0, hcL⟩ : ∃ y, (cP xs k).length = y := ⟨_, rfl⟩
          rw [hcT] at c0
          rw [hcL] at c1
          rw [hcM] at c2
          rw [hcN] at c3
          clear hcT hcM hcN hcL
          go_wp2
          refine bodyPost_ret (v := .tuple #[.agg #[.string cT0, .slice la cL0 lc, .int .i64 cM0, .string cN0], .bool false]) (by simp [results, Tryz.results29, go_sem, d0, d1, d2, d3]) rfl ?_
          rw [hb]
          exact ⟨(HB _ _ _ _).out, .inr ⟨HD.out, _, _, _, _, _, _, rfl⟩⟩
        | true =>
          have hst := hH' x1 rfl hx1
          rw [← hW] at hst
          have hxs1 : x1.size ≤ 1048576 := by
            have := congrArg List.length hx1
            simp only [List.length_append, List.length_cons, List.length_nil, size_eq] at this
            omega
          clear bad hO' hM' hH' hx1 hW
          obtain ⟨e1, e2, e3, e4⟩ := step x1 hst
          have G1 : Hid (cG xs (k + 1)) := cG_step H3.out hG.out hst (fun h => by rw [← HX.out] at h; have := HK.out; omega)
          have UU : Hid (UR xs (k + 1) b (.slice la (cP xs k).length lc) (w2.setCell ⟨b + 1, 3, none⟩ (.string x1))) := UR.next U (by decide) (by decide) (by simp [e1, e3, e4]) e2
          have RR : Hid (Rf (w2.setCell ⟨b + 1, 3, none⟩ (.string x1)) b _) := R.other (by omega) _
          have BB : Hid (Below b w (w2.setCell ⟨b + 1, 3, none⟩ (.string x1))) := setBelow B (by omega)
          have SX : Hid (SS (w2.setCell ⟨b + 1, 3, none⟩ (.string x1)) (some ⟨g, off, none⟩) T) := SS.setOther hS (fun g1 o1 e => by have := hgA g1 o1 e; omega)
          have ZZ : b + 2 ≤ (w2.setCell ⟨b + 1, 3, none⟩ (.string x1)).heap.size := by simpa using Z2
          have c0 := U.blk.at_ 3 _ rfl
          have f0 := U.blk.fz 3
          clear step hst e1 e2 e3 e4 U R B hS hG hBad Z2
          go_wp2
          go_roundw
          case rel => exact ⟨k + 1, _, by omega, by go_num, G1, UU.out, RR.out, BB.out, ZZ, SX.out, hne⟩
          case measure => first | (simp [intOf]; omega) | simp [intOf]
    · have ek : k = T.length := by omega
      have qk : ¬ (k : Int) < (T.length : Int) := by omega
      have ekx : k = xs.length := by rw [ek, HX.out]
      have hE := hEnd H3.out (by rw [← ekx]; exact hG.out)
      rw [← ekx] at hE
      obtain ⟨hOk, hCm⟩ := hE
      have hPl : (cP xs k).length ≤ 1048576 := by have := cP_len xs k; rw [← HX.out] at this; omega
      have hxz : ∀ i, i < xs.length → (xs.getD i []).length ≤ 1048576 := fun i hi => by
        have hi' : i < T.length := by rw [HX.out]; exact hi
        rw [hxT i hi', size_eq]; exact hls i hi'
      obtain ⟨aP, cPc, hvv, sP, -⟩ := SS_of_row U.row rfl (fun j hj => Nat.le_trans (cP_size hxz j hj) (by decide))
      simp only [Value.slice.injEq, true_and] at hvv
      obtain ⟨rfl, rfl⟩ := hvv
      have hF := fun W h => specCommitFault (cT xs k) la lc (cP xs k) (cM xs k) (cN xs k) W h hPl
      have hYes : cmF (cT xs k) (cP xs k) (cM xs k) (cN xs k) = 0 → Hid (sOk tI xs ∧ cmF (sCm tI xs).1 (sCm tI xs).2.1 (sCm tI xs).2.2.1 (sCm tI xs).2.2.2 = 0) := fun h => ⟨hOk, by rw [hCm]; exact h⟩
      have hNo : ¬ cmF (cT xs k) (cP xs k) (cM xs k) (cN xs k) = 0 → Hid (¬ (sOk tI xs ∧ cmF (sCm tI xs).1 (sCm tI xs).2.1 (sCm tI xs).2.2.1 (sCm tI xs).2.2.2 = 0)) := fun h q => h (by have := q.2; rw [hCm] at this; exact this)
      have HCm : Hid (sCm tI xs = (cT xs k, cP xs k, cM xs k, cN xs k)) := hCm
      obtain ⟨FF, hFe⟩ : ∃ F, cmF (cT xs k) (cP xs k) (cM xs k) (cN xs k) = F := ⟨_, rfl⟩
      rw [hFe] at hYes hNo
      simp only [hFe] at hF
      have sP' := sP.below (below_drew (Below.refl wr.heap.size wr))
      have c0 := U.blk.at_ 0 _ rfl
      have c1 := U.blk.at_ 1 _ rfl
      have c2 := U.blk.at_ 2 _ rfl
      have c3 := U.blk.at_ 3 _ rfl
      clear hxT hls hBad hEnd hS hne hgA hFe hOk hCm ek ekx hxz hG sP
      go_wp2_with fail
      refine wp_region_held_drew (S := fun u => u.cell? ⟨b + 1, 0, none⟩ = some (.string (cT xs k)) ∧ u.cell? ⟨b + 1, 1, none⟩ = some (.slice la (cP xs k).length lc) ∧ u.cell? ⟨b + 1, 2, none⟩ = some (.int .i64 (cM xs k)) ∧ u.cell? ⟨b + 1, 3, none⟩ = some (.string (cN xs k))) (by kernel_rfl) ⟨c0, c1, c2, c3⟩ (fun hHeld => ?_)
      refine takeD (i := 0) (d := 86) (oi := _) (v := ?_) (listed' := #[true, false, false, false, false, false]) rfl (by kernel_rfl) (by kernel_rfl) (by kernel_rfl) (fun _ _ _ h => h) (Or.inl ⟨by rfl, ?_⟩) hHeld (by kernel_rfl) (by kernel_rfl) ?_
      rotate_left
      · intro w hSw
        try dsimp only at hSw
        first
          | (go_simp; done)
          | (go_simp; with_reducible rfl)
      simp only [Act.put, List.setIfInBounds_toArray, List.set_cons_zero, List.set_cons_succ]
      refine takeD (i := 1) (d := 87) (oi := _) (v := ?_) (listed' := #[true, true, false, false, false, false]) rfl (by kernel_rfl) (by kernel_rfl) (by kernel_rfl) (fun _ _ _ h => h) (Or.inl ⟨by rfl, ?_⟩) hHeld (by kernel_rfl) (by kernel_rfl) ?_
      rotate_left
      · intro w hSw
        try dsimp only at hSw
        first
          | (go_simp; done)
          | (go_simp; with_reducible rfl)
      simp only [Act.put, List.setIfInBounds_toArray, List.set_cons_zero, List.set_cons_succ]
      refine wpAnyH_ready (rs := [2]) (by kernel_rfl) (by simp) ?_
      refine AllReadyH.cons (o := _) rfl (fun K hK => ?_) AllReadyH.nil
      go_simp
      refine (hF _ sP').mono ?_
      rintro e w3 ⟨rfl, b3⟩
      have B3' : Below wr.heap.size wr w3 := (below_drew (Below.refl _ wr)).trans b3
      have U3 := U.below (by omega) B3'
      have R3 := R.below (by omega) B3'
      have B3 : Below b w w3 := B.trans (B3'.mono (by omega))
      have e0 := U3.blk.at_ 0 _ rfl
      have e1 := U3.blk.at_ 1 _ rfl
      have e2 := U3.blk.at_ 2 _ rfl
      have e3 := U3.blk.at_ 3 _ rfl
      have d0 := R3.at_ 0 _ rfl
      have d1 := R3.at_ 1 _ rfl
      have d2 := R3.at_ 2 _ rfl
      have d3 := R3.at_ 3 _ rfl
      have f0 := R3.fz 0
      have f1 := R3.fz 1
      have f2 := R3.fz 2
      have f3 := R3.fz 3
      have row3 := U3.row
      have HB : ∀ x0 x1 x2 x3, Hid (Below b w ((((w3.setCell ⟨b, 0, none⟩ x0).setCell ⟨b, 1, none⟩ x1).setCell ⟨b, 2, none⟩ x2).setCell ⟨b, 3, none⟩ x3)) := fun _ _ _ _ => setBelow (setBelow (setBelow (setBelow B3 (Nat.le_refl _)) (Nat.le_refl _)) (Nat.le_refl _)) (Nat.le_refl _)
      have HO : ∀ x0 x1 x2 x3, Hid (((((w3.setCell ⟨b, 0, none⟩ x0).setCell ⟨b, 1, none⟩ x1).setCell ⟨b, 2, none⟩ x2).setCell ⟨b, 3, none⟩ x3).ownsRow b 9 1 (.slice la (cP xs k).length lc) (cP xs k).length ((cP xs k).map Value.string)) := fun _ _ _ _ => rowDown (ownSet (ownSet (ownSet (ownSet row3 (by omega)) (by omega)) (by omega)) (by omega)) (by omega)
      have HS : ∀ x0 x1 x2 x3, Hid (Rf ((((w3.setCell ⟨b, 0, none⟩ x0).setCell ⟨b, 1, none⟩ x1).setCell ⟨b, 2, none⟩ x2).setCell ⟨b, 3, none⟩ x3) (b + 1) _) := fun _ _ _ _ => (((U3.blk.other (by omega) _).other (by omega) _).other (by omega) _).other (by omega) _
      have HR : ∀ x0 x1 x2 x3, Hid (Rf ((((w3.setCell ⟨b, 0, none⟩ x0).setCell ⟨b, 1, none⟩ x1).setCell ⟨b, 2, none⟩ x2).setCell ⟨b, 3, none⟩ x3) b [x0, x1, x2, x3]) := fun x0 x1 x2 x3 => (((R3.set (o := 0) (by simp) x0).set (o := 1) (by simp) x1).set (o := 2) (by simp) x2).set (o := 3) (by simp) x3
      clear U R B U3 R3 B3 b3 B3' row3 hF sP' hHeld c0 c1 c2 c3
      obtain ⟨cT0, hcT⟩ : ∃ y, cT xs k = y := ⟨_, rfl⟩
      obtain ⟨cM0, hcM⟩ : ∃ y, cM xs k = y := ⟨_, rfl⟩
      obtain ⟨cN0, hcN⟩ : ∃ y, cN xs k = y := ⟨_, rfl⟩
      obtain ⟨cL0, hcL⟩ : ∃ y, cP xs k = y := ⟨_, rfl⟩
      simp only [hcT, hcM, hcN, hcL] at *
      clear hcT hcM hcN hcL
      refine hK.out _ _ ⟨e0, e1, e2, e3⟩ (fun hS1 => ?_)
      clear hK K
      simp only [List.setIfInBounds_toArray, List.set_cons_zero, List.set_cons_succ]
      refine takeD (i := 3) (d := 89) (oi := _) (v := ?_) (listed' := #[true, true, true, true, false, false]) rfl (by kernel_rfl) (by kernel_rfl) (by kernel_rfl) (fun _ _ _ h => h) (Or.inl ⟨by rfl, ?_⟩) hS1 (by kernel_rfl) (by kernel_rfl) ?_
      rotate_left
      · intro w hSw
        try dsimp only at hSw
        first
          | (go_simp; done)
          | (go_simp; with_reducible rfl)
      simp only [Act.put, List.setIfInBounds_toArray, List.set_cons_zero, List.set_cons_succ]
      refine wpAnyH_ready (rs := [4]) (by kernel_rfl) (by simp) ?_
      refine AllReadyH.cons (o := _) rfl (fun K hK => ?_) AllReadyH.nil
      go_simp
      have s4 := (HS (.string cT0) (.slice la cL0.length lc) (.int .i64 cM0) (.string cN0)).out
      refine hK.out _ _ ⟨s4.at_ 0 _ rfl, s4.at_ 1 _ rfl, s4.at_ 2 _ rfl, s4.at_ 3 _ rfl⟩ (fun hS4 => ?_)
      clear hK K s4
      simp only [List.setIfInBounds_toArray, List.set_cons_zero, List.set_cons_succ]
      refine takeD (i := 5) (d := 3) (oi := _) (v := ?_) (listed' := #[true, true, true, true, true, true]) rfl (by kernel_rfl) (by kernel_rfl) (by kernel_rfl) (fun _ _ _ h => h) (Or.inl ⟨by rfl, ?_⟩) hS4 (by kernel_rfl) (by kernel_rfl) ?_
      rotate_left
      · intro w hSw
        try dsimp only at hSw
        first
          | (go_simp; done)
          | (go_simp; with_reducible rfl)
      simp only [Act.put, List.setIfInBounds_toArray, List.set_cons_zero, List.set_cons_succ]
      refine wpAnyH_done (by kernel_rfl) ?_ _
      have r4 := (HR (.string cT0) (.slice la cL0.length lc) (.int .i64 cM0) (.string cN0)).out
      have g0 := r4.at_ 0 _ rfl
      have g1 := r4.at_ 1 _ rfl
      have g2 := r4.at_ 2 _ rfl
      have g3 := r4.at_ 3 _ rfl
      go_wp2
      by_cases h0 : FF = 0
      · have HD := hYes h0
        subst h0
        refine bodyPost_ret (v := .tuple #[.agg #[.string cT0, .slice la cL0.length lc, .int .i64 cM0, .string cN0], .bool true]) (by simp [results, Tryz.results29, go_sem, g0, g1, g2, g3]) rfl ?_
        rw [hb]
        refine ⟨(HB _ _ _ _).out, .inl ⟨HD.out, .slice la cL0.length lc, ?_, ?_⟩⟩
        · rw [HCm.out]
        · rw [HCm.out]; exact (HO _ _ _ _).out
      · have HD := hNo h0
        have q0 : (FF == 0) = false := by simpa using h0
        refine bodyPost_ret (v := .tuple #[.agg #[.string cT0, .slice la cL0.length lc, .int .i64 cM0, .string cN0], .bool false]) (by simp [results, Tryz.results29, go_sem, g0, g1, g2, g3, q0]) rfl ?_
        rw [hb]
        exact ⟨(HB _ _ _ _).out, .inr ⟨HD.out, _, _, _, _, _, _, rfl⟩⟩
end Go.Proofs.YtgidcncmicmggamGreatDoor.Dc
/- What DecodeCommit answers; the contract of the specification's. No statement is proved here. -/
namespace Go.Proofs.YtgidcncmicmggamGreatDoor.Dc
open Go.ChangeShapes Go.WideShapes Go.ChangeAt Go.RowKit

/-- What DecodeCommit answers. -/
def dcC (s : ByteArray) : Int := if (dcI pI s).isSome = true then 0 else 5
def dcK (s : ByteArray) : Cm4 := (dcI pI s).getD (⟨#[]⟩, [], 0, ⟨#[]⟩)
def DC (s : ByteArray) (w : World) (e : Ending) (w' : World) : Prop := ∃ v, e = .returned (.agg #[.int .i64 (dcC s), .string (dcK s).1, v, .int .i64 (dcK s).2.2.1, .string (dcK s).2.2.2]) ∧ w'.ownsRow w.heap.size 9 1 v (dcK s).2.1.length ((dcK s).2.1.map Value.string) ∧ Below w.heap.size w w'
theorem dc_some {s : ByteArray} {c : Cm4} (h : dcI pI s = some c) : dcC s = 0 ∧ dcK s = c := by
  unfold dcC dcK
  rw [h]
  exact ⟨rfl, rfl⟩
theorem dc_none {s : ByteArray} (h : dcI pI s = none) : dcC s = 5 ∧ dcK s = (⟨#[]⟩, [], 0, ⟨#[]⟩) := by
  unfold dcC dcK
  rw [h]
  exact ⟨rfl, rfl⟩
theorem spec_yes {s : ByteArray} (h : dcS tI s) : dcI pI s = some (sCm tI (spl s.data.toList)) := dc_yes pI_dec tI_sound h
theorem spec_no {s : ByteArray} (h : ¬ dcS tI s) : dcI pI s = none := dc_no tI_dec h
theorem below5 {b : Nat} {w w' : World} (h : Below b w w') (x0 x1 x2 x3 x4 : Value) : Below b w (((((w'.setCell ⟨b, 0, none⟩ x0).setCell ⟨b, 1, none⟩ x1).setCell ⟨b, 2, none⟩ x2).setCell ⟨b, 3, none⟩ x3).setCell ⟨b, 4, none⟩ x4) :=
  setBelow (setBelow (setBelow (setBelow (setBelow h (Nat.le_refl _)) (Nat.le_refl _)) (Nat.le_refl _)) (Nat.le_refl _)) (Nat.le_refl _)
theorem own5 {b n : Nat} {w : World} {e : TypeId} {s : Nat} {v : Value} {xs : List Value} (h : w.ownsRow (b + 1) e s v n xs) (x0 x1 x2 x3 x4 : Value) : (((((w.setCell ⟨b, 0, none⟩ x0).setCell ⟨b, 1, none⟩ x1).setCell ⟨b, 2, none⟩ x2).setCell ⟨b, 3, none⟩ x3).setCell ⟨b, 4, none⟩ x4).ownsRow b e s v n xs :=
  rowDown (ownSet (ownSet (ownSet (ownSet (ownSet h (by omega)) (by omega)) (by omega)) (by omega)) (by omega)) (by omega)
theorem rf5 {b : Nat} {w : World} {vs : List Value} (h : Rf w b vs) (hl : vs.length = 5) (hb : b < w.heap.size) (x0 x1 x2 x3 x4 : Value) (o : Obj) : Rf ((((((w.setCell ⟨b, 0, none⟩ x0).setCell ⟨b, 1, none⟩ x1).setCell ⟨b, 2, none⟩ x2).setCell ⟨b, 3, none⟩ x3).setCell ⟨b, 4, none⟩ x4).alloc o) b [x0, x1, x2, x3, x4] := by
  match vs, hl with
  | [_, _, _, _, _], _ =>
    refine Rf.below ?_ (by simpa using hb) (allocBelow _ _)
    exact ((((h.set (o := 0) (by simp) x0).set (o := 1) (by simp) x1).set (o := 2) (by simp) x2).set (o := 3) (by simp) x3).set (o := 4) (by simp) x4
set_option maxRecDepth 20000 in
set_option maxHeartbeats 2000000 in
theorem specDecodeCommit (s : ByteArray) (w : World) (hs : s.size ≤ 1048576) :
    Calls Tryz.prog 6 #[.string s] w fun e w' => DC s w e w' := by
  obtain ⟨b, hb⟩ : ∃ b, w.heap.size = b := ⟨_, rfl⟩
  obtain ⟨W1, hW1⟩ : ∃ W1, w.alloc (.cells #[.int .i64 0, .string ⟨#[]⟩, .slice none 0 0, .int .i64 0, .string ⟨#[]⟩] 26) = W1 := ⟨_, rfl⟩
  have b1 : Below b w W1 := by rw [← hW1, ← hb]; exact allocBelow _ _
  have z1 : b < W1.heap.size := by rw [← hW1, ← hb]; simp
  have r1 : Rf W1 b [.int .i64 0, .string ⟨#[]⟩, .slice none 0 0, .int .i64 0, .string ⟨#[]⟩] := by rw [← hW1, ← hb]; exact Rf.new _ _ _
  have hR := fun W => l6UncommitC s W hs
  go_enter Tryz.func6, Tryz.ntmps6
  go_wp2_with fail
  refine (hR _).mono ?_
  rintro e w2 ⟨b2, he⟩
  have r2 := r1.below z1 b2
  have B2 : Below b w w2 := b1.trans (b2.mono (Nat.le_of_lt z1))
  have z2 := b2.size
  have d0 := r2.at_ 0 _ rfl
  have d1 := r2.at_ 1 _ rfl
  have d2 := r2.at_ 2 _ rfl
  have d3 := r2.at_ 3 _ rfl
  have d4 := r2.at_ 4 _ rfl
  have f0 := r2.fz 0
  have f1 := r2.fz 1
  have f2 := r2.fz 2
  have f3 := r2.fz 3
  have f4 := r2.fz 4
  have hz : b < w2.heap.size := by omega
  have HR := fun x0 x1 x2 x3 x4 o => rf5 r2 rfl hz x0 x1 x2 x3 x4 o
  clear hR r1 r2 hW1 b1
  rcases he with ⟨hy, v, rfl, hrow⟩ | ⟨hy, t, la, ln, lc, tm, no, rfl⟩
  · have HY : Hid _ := dc_some (spec_yes hy)
    obtain ⟨la, lc, rfl⟩ : ∃ a c, v = .slice a (sCm tI (spl s.data.toList)).2.1.length c := by
      rcases hrow.2 with ⟨h', h0'⟩ | ⟨g, c, cur, h', _⟩
      · exact ⟨none, 0, by rw [h', h0']⟩
      · exact ⟨_, _, h'⟩
    obtain ⟨⟨t, ps, tm, no⟩, hC⟩ : ∃ c, sCm tI (spl s.data.toList) = c := ⟨_, rfl⟩
    rw [hC] at hrow HY ⊢
    have hrow1 := rowDown hrow (show b + 1 ≤ W1.heap.size from z1)
    clear hC hy hrow
    go_wp2
    have R5 := HR (.int .i64 0) (.string t) (.slice la ps.length lc) (.int .i64 tm) (.string no) (.cells #[.string t, .slice la ps.length lc, .int .i64 tm, .string no] 24)
    have g0 := R5.at_ 0 _ rfl
    have g1 := R5.at_ 1 _ rfl
    have g2 := R5.at_ 2 _ rfl
    have g3 := R5.at_ 3 _ rfl
    have g4 := R5.at_ 4 _ rfl
    refine bodyPost_ret (v := .agg #[.int .i64 0, .string t, .slice la ps.length lc, .int .i64 tm, .string no]) (by simp [results, Tryz.results6, go_sem, g0, g1, g2, g3, g4]) rfl ?_
    unfold DC
    rw [HY.out.1, HY.out.2, hb]
    exact ⟨_, rfl, (own5 hrow1 _ _ _ _ _).alloc _, (below5 B2 _ _ _ _ _).alloc (by simpa using Nat.le_of_lt hz) _⟩
  · have HY : Hid _ := dc_none (spec_no hy)
    clear hy
    go_wp2
    have R5 := HR (.int .i64 5) (.string ⟨#[]⟩) (.slice none 0 0) (.int .i64 0) (.string ⟨#[]⟩) (.cells #[.string t, .slice la ln lc, .int .i64 tm, .string no] 24)
    have g0 := R5.at_ 0 _ rfl
    have g1 := R5.at_ 1 _ rfl
    have g2 := R5.at_ 2 _ rfl
    have g3 := R5.at_ 3 _ rfl
    have g4 := R5.at_ 4 _ rfl
    refine bodyPost_ret (v := .agg #[.int .i64 5, .string ⟨#[]⟩, .slice none 0 0, .int .i64 0, .string ⟨#[]⟩]) (by simp [results, Tryz.results6, go_sem, g0, g1, g2, g3, g4]) rfl ?_
    unfold DC
    rw [HY.out.1, HY.out.2, hb]
    exact ⟨_, rfl, World.ownsRow_nil _ _ _ _, (below5 B2 _ _ _ _ _).alloc (by simpa using Nat.le_of_lt hz) _⟩
theorem isOf_size {k : Int} {id : ByteArray} (h : isOf k id = true) : id.size = 5 := by
  by_cases q : id.data.toList.length = 5
  · rw [size_eq] at q; exact q
  · rw [isOf_no (idB_len q)] at h; cases h
theorem dcK_ok (s : ByteArray) : (dcK s).2.1.length ≤ 3 ∧ ∀ k, k < (dcK s).2.1.length → ((dcK s).2.1.getD k ByteArray.empty).size ≤ 9223372036854775807 := by
  cases e : dcI pI s with
  | none => rw [(dc_none e).2]; exact ⟨by simp, fun k hk => by simp at hk⟩
  | some c =>
    rw [(dc_some e).2]
    obtain ⟨h0, _⟩ := dcI_some e
    obtain ⟨k0, _, _⟩ := cmF_zero h0
    obtain ⟨_, x2, x3⟩ := hd_zero k0
    refine ⟨by omega, fun k hk => ?_⟩
    have := (x3 k hk).1
    have := isOf_size this
    omega
theorem dcK_len (d : ByteArray) (_ : d.size ≤ 1048576) : (dcK d).2.1.length ≤ 1048576 := Nat.le_trans (dcK_ok d).1 (by decide)
theorem dcK_sizes (d : ByteArray) (_ : d.size ≤ 1048576) : ∀ k, k < (dcK d).2.1.length → ((dcK d).2.1.getD k ByteArray.empty).size ≤ 9223372036854775807 := (dcK_ok d).2
end Go.Proofs.YtgidcncmicmggamGreatDoor.Dc
/- The contract of the program's wantText, at a commit. No statement is proved here. -/
namespace Go.Proofs.YtgidcncmicmggamGreatDoor.Dc
open Go.ChangeShapes Go.WideShapes Go.ChangeAt Go.RowKit

/-- The program's errOtherForm: some error. -/
def OfG (w : World) : Prop := ∃ (T : TypeId) (u : Value), w.cell? ⟨0, 0, none⟩ = some (.iface T u)
theorem OfG.below {B : Nat} {w w' : World} (h : OfG w) (hb : Below B w w') (hB : 0 < B) : OfG w' := by
  obtain ⟨T, u, h⟩ := h
  exact ⟨T, u, (hb.cell (p := ⟨0, 0, none⟩) hB).trans h⟩
/-- What wantText answers. -/
def WT2 (t : ByteArray) (ps : List ByteArray) (tm : Int) (no d : ByteArray) (e : Ending) : Prop :=
  ((cmF t ps tm no = 0 ∧ cmB t ps tm no = d) ∧ e = .returned .nilIface) ∨ (¬ (cmF t ps tm no = 0 ∧ cmB t ps tm no = d) ∧ ∃ T u, e = .returned (.iface 100 (.agg #[.iface T u])))
set_option maxRecDepth 20000 in
set_option maxHeartbeats 1000000 in
theorem wantTextC (t : ByteArray) (a : Option Addr) (c : Nat) (ps : List ByteArray) (tm : Int) (no d : ByteArray) (w : World) (h : SS w a ps) (hc : ps.length ≤ c) (hn : ps.length ≤ 1048576) (hTa : TaG w) (hgB : 6 < w.heap.size) (ho : OfG w) (hoB : 0 < w.heap.size) :
    Calls Tryz.prog 64 #[.iface 110 (.agg #[.string t, .slice a ps.length c, .int .i64 tm, .string no]), .string d] w fun e w' => WT2 t ps tm no d e ∧ Below w.heap.size w w' := by
  have hE := encodeCommit t a c ps tm no w h hc hn hTa hgB
  have w1 : cmF t ps tm no = 0 → cmB t ps tm no = d → Hid (WT2 t ps tm no d (.returned .nilIface)) := fun a b => .inl ⟨⟨a, b⟩, rfl⟩
  have w2 : ¬ (cmF t ps tm no = 0 ∧ cmB t ps tm no = d) → ∀ T u, Hid (WT2 t ps tm no d (.returned (.iface 100 (.agg #[.iface T u])))) := fun a T u => .inr ⟨a, T, u, rfl⟩
  go_enter Tryz.func64, Tryz.ntmps64
  go_wp2_with fail
  refine hE.mono ?_
  rintro e w2' ⟨b2, he⟩
  obtain ⟨T0, u0, c0⟩ := ho.below b2 hoB
  rcases he with ⟨h0, rfl⟩ | ⟨h0, rfl⟩
  · by_cases hd : cmB t ps tm no = d
    · have W1 := w1 h0 hd
      have q := beq_bytes_true hd
      obtain ⟨T, hT⟩ : ∃ T, cmB t ps tm no = T := ⟨_, rfl⟩
      rw [hT] at q ⊢
      clear w1 w2 hE h0 hd hT c0
      go_wp2
      go_ret
      exact ⟨W1.out, b2⟩
    · have W2 := w2 (fun k => hd k.2) T0 u0
      have q := beq_bytes_false hd
      obtain ⟨T, hT⟩ : ∃ T, cmB t ps tm no = T := ⟨_, rfl⟩
      rw [hT] at q ⊢
      clear w1 w2 hE h0 hd hT
      go_wp2
      go_ret
      exact ⟨W2.out, b2⟩
  · have W2 := w2 (fun k => h0 k.1)
    clear w1 w2 hE c0
    go_wp2
    go_ret
    exact ⟨(W2 _ _).out, b2⟩
end Go.Proofs.YtgidcncmicmggamGreatDoor.Dc
/- Contracts of the library that are laid at this program: Tryz.strconv_ParseInt_10_at64_ok, Tryz.strconv_ParseInt_10_at64_syntax, Tryz.strconv_ParseInt_10_at64_range. No statement is proved here. -/
namespace Go.Proofs
open Go.Shelf
def Tryz.laysC174_ren : Go.Shelf.Ren := ⟨fun | 174 => 63 | 247 => 103 | 245 => 104 | 287 => 142 | 279 => 143 | 280 => 144 | 281 => 145 | 282 => 146 | 321 => 185 | 322 => 186 | 316 => 102 | 171 => 188 | 205 => 187 | 243 => 219 | 246 => 224 | 283 => 237 | 284 => 238 | 285 => 239 | 286 => 240 | 129 => 171 | 317 => 245 | 318 => 246 | 319 => 247 | 320 => 248 | 337 => 250 | 338 => 251 | n => n, fun | 9 => 9 | 3 => 3 | 2 => 2 | 75 => 58 | 85 => 107 | 4 => 4 | 167 => 202 | 5 => 5 | 53 => 203 | 175 => 204 | 46 => 195 | 168 => 206 | 37 => 145 | 0 => 0 | 210 => 253 | 21 => 21 | 127 => 201 | 145 => 276 | 143 => 274 | 171 => 294 | 173 => 296 | 212 => 301 | 51 => 230 | 20 => 20 | 213 => 302 | 232 => 309 | 233 => 310 | 80 => 214 | n => n, fun | 15 => 3 | 16 => 4 | 17 => 6 | 18 => 9 | 19 => 10 | n => n⟩
theorem Tryz.laysC174 : Go.Proofs.LaysC.n174 Tryz.prog Tryz.laysC174_ren := {
  mixed := by kernel_rfl
  f129 := Tryz.func171.trans (congrArg some (by kernel_rfl))
  f171 := Tryz.func188.trans (congrArg some (by kernel_rfl))
  f174 := Tryz.func63.trans (congrArg some (by kernel_rfl))
  f205 := Tryz.func187.trans (congrArg some (by kernel_rfl))
  f243 := Tryz.func219.trans (congrArg some (by kernel_rfl))
  f245 := Tryz.func104.trans (congrArg some (by kernel_rfl))
  f246 := Tryz.func224.trans (congrArg some (by kernel_rfl))
  f247 := Tryz.func103.trans (congrArg some (by kernel_rfl))
  f279 := Tryz.func143.trans (congrArg some (by kernel_rfl))
  f280 := Tryz.func144.trans (congrArg some (by kernel_rfl))
  f281 := Tryz.func145.trans (congrArg some (by kernel_rfl))
  f282 := Tryz.func146.trans (congrArg some (by kernel_rfl))
  f283 := Tryz.func237.trans (congrArg some (by kernel_rfl))
  f284 := Tryz.func238.trans (congrArg some (by kernel_rfl))
  f285 := Tryz.func239.trans (congrArg some (by kernel_rfl))
  f286 := Tryz.func240.trans (congrArg some (by kernel_rfl))
  f287 := Tryz.func142.trans (congrArg some (by kernel_rfl))
  f316 := Tryz.func102.trans (congrArg some (by kernel_rfl))
  f317 := Tryz.func245.trans (congrArg some (by kernel_rfl))
  f318 := Tryz.func246.trans (congrArg some (by kernel_rfl))
  f319 := Tryz.func247.trans (congrArg some (by kernel_rfl))
  f320 := Tryz.func248.trans (congrArg some (by kernel_rfl))
  f321 := Tryz.func185.trans (congrArg some (by kernel_rfl))
  f322 := Tryz.func186.trans (congrArg some (by kernel_rfl))
  f337 := Tryz.func250.trans (congrArg some (by kernel_rfl))
  f338 := Tryz.func251.trans (congrArg some (by kernel_rfl))
  t0 := Tryz.underlying0
  a0 := Tryz.isAgg0
  z0 := Tryz.sizeOf0
  v0 := Tryz.zeroValue0
  t2 := Tryz.underlying2
  a2 := Tryz.isAgg2
  z2 := Tryz.sizeOf2
  v2 := Tryz.zeroValue2
  t3 := Tryz.underlying3
  a3 := Tryz.isAgg3
  z3 := Tryz.sizeOf3
  v3 := Tryz.zeroValue3
  t4 := Tryz.underlying4
  a4 := Tryz.isAgg4
  z4 := Tryz.sizeOf4
  v4 := Tryz.zeroValue4
  t5 := Tryz.underlying5
  a5 := Tryz.isAgg5
  z5 := Tryz.sizeOf5
  v5 := Tryz.zeroValue5
  t9 := Tryz.underlying9
  a9 := Tryz.isAgg9
  z9 := Tryz.sizeOf9
  v9 := Tryz.zeroValue9
  t20 := Tryz.underlying20
  a20 := Tryz.isAgg20
  z20 := Tryz.sizeOf20
  v20 := Tryz.zeroValue20
  t21 := Tryz.underlying21
  a21 := Tryz.isAgg21
  z21 := Tryz.sizeOf21
  v21 := Tryz.zeroValue21
  t37 := Tryz.underlying145
  a37 := Tryz.isAgg145
  z37 := Tryz.sizeOf145
  v37 := Tryz.zeroValue145
  t46 := Tryz.underlying195
  a46 := Tryz.isAgg195
  z46 := Tryz.sizeOf195
  v46 := Tryz.zeroValue195
  t51 := Tryz.underlying230
  a51 := Tryz.isAgg230
  z51 := Tryz.sizeOf230
  v51 := Tryz.zeroValue230
  t53 := Tryz.underlying203
  a53 := Tryz.isAgg203
  z53 := Tryz.sizeOf203
  v53 := Tryz.zeroValue203
  t75 := Tryz.underlying58
  a75 := Tryz.isAgg58
  z75 := Tryz.sizeOf58
  v75 := Tryz.zeroValue58
  t85 := Tryz.underlying107
  a85 := Tryz.isAgg107
  z85 := Tryz.sizeOf107
  v85 := Tryz.zeroValue107
  t127 := Tryz.underlying201
  a127 := Tryz.isAgg201
  z127 := Tryz.sizeOf201
  v127 := Tryz.zeroValue201
  t143 := Tryz.underlying274
  a143 := Tryz.isAgg274
  z143 := Tryz.sizeOf274
  v143 := Tryz.zeroValue274
  t145 := Tryz.underlying276
  a145 := Tryz.isAgg276
  z145 := Tryz.sizeOf276
  v145 := Tryz.zeroValue276
  t167 := Tryz.underlying202
  a167 := Tryz.isAgg202
  z167 := Tryz.sizeOf202
  v167 := Tryz.zeroValue202
  t168 := Tryz.underlying206
  a168 := Tryz.isAgg206
  z168 := Tryz.sizeOf206
  v168 := Tryz.zeroValue206
  t171 := Tryz.underlying294
  a171 := Tryz.isAgg294
  z171 := Tryz.sizeOf294
  v171 := Tryz.zeroValue294
  t173 := Tryz.underlying296
  a173 := Tryz.isAgg296
  z173 := Tryz.sizeOf296
  v173 := Tryz.zeroValue296
  t175 := Tryz.underlying204
  a175 := Tryz.isAgg204
  z175 := Tryz.sizeOf204
  v175 := Tryz.zeroValue204
  t210 := Tryz.underlying253
  a210 := Tryz.isAgg253
  z210 := Tryz.sizeOf253
  v210 := Tryz.zeroValue253
  t212 := Tryz.underlying301
  a212 := Tryz.isAgg301
  z212 := Tryz.sizeOf301
  v212 := Tryz.zeroValue301
  t213 := Tryz.underlying302
  a213 := Tryz.isAgg302
  z213 := Tryz.sizeOf302
  t232 := Tryz.underlying309
  a232 := Tryz.isAgg309
  z232 := Tryz.sizeOf309
  v232 := Tryz.zeroValue309
  t233 := Tryz.underlying310
  a233 := Tryz.isAgg310
  z233 := Tryz.sizeOf310
  v233 := Tryz.zeroValue310
  g15 := by kernel_rfl
  g16 := by kernel_rfl
  g17 := by kernel_rfl
  g18 := by kernel_rfl
  g19 := by kernel_rfl
  t80 := Tryz.underlying214
  a80 := Tryz.isAgg214
  z80 := Tryz.sizeOf214
  v80 := Tryz.zeroValue214
  i0 := by kernel_rfl
  i2 := by kernel_rfl
  i3 := by kernel_rfl
  i4 := by kernel_rfl
  i5 := by kernel_rfl
  i9 := by kernel_rfl
  i20 := by kernel_rfl
  i21 := by kernel_rfl
  i37 := by kernel_rfl
  i46 := by kernel_rfl
  i51 := by kernel_rfl
  i53 := by kernel_rfl
  i75 := by kernel_rfl
  i80 := by kernel_rfl
  i85 := by kernel_rfl
  i127 := by kernel_rfl
  i143 := by kernel_rfl
  i145 := by kernel_rfl
  i167 := by kernel_rfl
  i168 := by kernel_rfl
  i171 := by kernel_rfl
  i173 := by kernel_rfl
  i175 := by kernel_rfl
  i210 := by kernel_rfl
  i212 := by kernel_rfl
  i232 := by kernel_rfl
  i233 := by kernel_rfl
  m15 := by kernel_rfl
  m16 := by kernel_rfl
  m17 := by kernel_rfl
  m18 := by kernel_rfl
  m19 := by kernel_rfl
  c0 := by kernel_rfl
  c2 := by kernel_rfl
  c3 := by kernel_rfl
  c4 := by kernel_rfl
  c5 := by kernel_rfl
  c9 := by kernel_rfl
  c20 := by kernel_rfl
  c21 := by kernel_rfl
  c37 := by kernel_rfl
  c46 := by kernel_rfl
  c51 := by kernel_rfl
  c53 := by kernel_rfl
  c75 := by kernel_rfl
  c80 := by kernel_rfl
  c85 := by kernel_rfl
  c127 := by kernel_rfl
  c143 := by kernel_rfl
  c145 := by kernel_rfl
  c167 := by kernel_rfl
  c168 := by kernel_rfl
  c171 := by kernel_rfl
  c173 := by kernel_rfl
  c175 := by kernel_rfl
  c210 := by kernel_rfl
  c212 := by kernel_rfl
  c213 := by kernel_rfl
  c232 := by kernel_rfl
  c233 := by kernel_rfl }
open Go.RowKit in
theorem Tryz.strconv_ParseInt_10_at64_ok (s : ByteArray) (hmax : s.size ≤ 9223372036854775806) (v : Int) (h : Lib.parseIntB 64 s.data.toList = .ok v) (w : World) :
    Calls Tryz.prog 63 #[.string s, .int .i64 10, .int .i64 64] w fun e w' => e = .returned (.tuple #[.int .i64 v, .nilIface]) ∧ (w' = w ∨ ∃ t, w' = Lib.bytesWorld w 5 t) := Any.strconv_ParseInt_10_at64_ok Tryz.laysC174 s hmax v h w
open Go.RowKit in
theorem Tryz.strconv_ParseInt_10_at64_syntax (s : ByteArray) (hlim : s.size ≤ 281474976710656) (h : Lib.parseIntB 64 s.data.toList = .«syntax») (ev : Value) (w : World) (hv : w.cell? ⟨3, 0, none⟩ = some ev) (hev : ev = .nilIface ∨ ∃ te pe, ev = .iface te pe) :
    Calls Tryz.prog 63 #[.string s, .int .i64 10, .int .i64 64] w fun e w' => ∃ N, e = .returned (.tuple #[.int .i64 (0), .iface 206 (.pointer (some ⟨N, 0, none⟩))]) ∧ w.heap.size ≤ N ∧ w'.heap[N]? = some (.cells #[.string ⟨#[80, 97, 114, 115, 101, 73, 110, 116]⟩, .string s, ev] 253 (0, 0)) ∧ Below w.heap.size w w' := Any.strconv_ParseInt_10_at64_syntax Tryz.laysC174 s hlim h ev w hv hev
open Go.RowKit in
theorem Tryz.strconv_ParseInt_10_at64_range (s : ByteArray) (hlim : s.size ≤ 281474976710656) (h : Lib.parseIntB 64 s.data.toList = .range) (ev : Value) (w : World) (hv : w.cell? ⟨4, 0, none⟩ = some ev) (hev : ev = .nilIface ∨ ∃ te pe, ev = .iface te pe) :
    Calls Tryz.prog 63 #[.string s, .int .i64 10, .int .i64 64] w fun e w' => ∃ N, e = .returned (.tuple #[.int .i64 (Lib.intSat 64 s.data.toList), .iface 206 (.pointer (some ⟨N, 0, none⟩))]) ∧ w.heap.size ≤ N ∧ w'.heap[N]? = some (.cells #[.string ⟨#[80, 97, 114, 115, 101, 73, 110, 116]⟩, .string s, ev] 253 (0, 0)) ∧ Below w.heap.size w w' := Any.strconv_ParseInt_10_at64_range Tryz.laysC174 s hlim h ev w hv hev
end Go.Proofs
/- What stands in memory while a commit is read; strconv.ParseInt. No statement is proved here. -/
namespace Go.Proofs.YtgidcncmicmggamGreatDoor.Dc
open Go.RowKit Go.Shelf
open Go.Proofs.YtgidcncmicmggamGreatDoor.Te

/-- The errors that strconv tells: some errors. -/
def PeG (w : World) : Prop := (∃ (T : TypeId) (u : Value), w.cell? ⟨3, 0, none⟩ = some (.iface T u)) ∧ (∃ (T : TypeId) (u : Value), w.cell? ⟨4, 0, none⟩ = some (.iface T u))
theorem PeG.below {B : Nat} {w w' : World} (h : PeG w) (hb : Below B w w') (h1 : 3 < B) (h2 : 4 < B) : PeG w' := by
  obtain ⟨⟨T, u, h⟩, T', u', h'⟩ := h
  exact ⟨⟨T, u, (hb.cell (p := ⟨3, 0, none⟩) h1).trans h⟩, T', u', (hb.cell (p := ⟨4, 0, none⟩) h2).trans h'⟩
/-- How ParseInt ends. -/
def PN (s : ByteArray) (e : Ending) : Prop := (∃ n : Int, pI s.data.toList = some n ∧ e = .returned (.tuple #[.int .i64 n, .nilIface])) ∨ (pI s.data.toList = none ∧ ∃ (n : Int) (T : TypeId) (u : Value), e = .returned (.tuple #[.int .i64 n, .iface T u]))
theorem parseIntC (s : ByteArray) (w : World) (hs : s.size ≤ 1048576) (hP : PeG w) :
    Calls Tryz.prog 63 #[.string s, .int .i64 10, .int .i64 64] w fun e w' => PN s e ∧ Below w.heap.size w w' := by
  obtain ⟨⟨T, u, h1⟩, T', u', h2⟩ := hP
  cases h : Lib.parseIntB 64 s.data.toList with
  | ok n =>
    refine (Tryz.strconv_ParseInt_10_at64_ok s (by omega) n h w).mono ?_
    rintro e w' ⟨rfl, hw⟩
    refine ⟨.inl ⟨n, by unfold pI; rw [h], rfl⟩, ?_⟩
    rcases hw with rfl | ⟨t, rfl⟩
    · exact Below.refl _ _
    · exact Lib.bytesWorld_below _ _ _
  | «syntax» =>
    refine (Tryz.strconv_ParseInt_10_at64_syntax s (by omega) h _ w h1 (.inr ⟨_, _, rfl⟩)).mono ?_
    rintro e w' ⟨N, rfl, _, _, hb⟩
    exact ⟨.inr ⟨by unfold pI; rw [h], _, _, _, rfl⟩, hb⟩
  | range =>
    refine (Tryz.strconv_ParseInt_10_at64_range s (by omega) h _ w h2 (.inr ⟨_, _, rfl⟩)).mono ?_
    rintro e w' ⟨N, rfl, _, _, hb⟩
    exact ⟨.inr ⟨by unfold pI; rw [h], _, _, _, rfl⟩, hb⟩
/-- The lines that were read. -/
def ds (pre : List Sm) : List (List UInt8) := (unS pre).map (fun x => x.data.toList)
theorem ds_snoc (pre : List Sm) (x : Sm) : ds (pre ++ [x]) = ds pre ++ [x.1.data.toList] := by simp [ds, unS]
theorem pAll_snoc (pi : List UInt8 → Option Int) (xs : List (List UInt8)) (x : List UInt8) : pAll pi (xs ++ [x]) = pStep pi (pAll pi xs) x := by simp [pAll, List.foldl_append]
theorem pStep_none (pi : List UInt8 → Option Int) (x : List UInt8) : pStep pi none x = none := rfl
theorem pFold_none (pi : List UInt8 → Option Int) : ∀ xs : List (List UInt8), xs.foldl (pStep pi) none = none
  | [] => rfl
  | _ :: xs => by rw [List.foldl_cons, pStep_none]; exact pFold_none pi xs
theorem pAll_pre (pi : List UInt8 → Option Int) {xs ys : List (List UInt8)} (h : pAll pi xs = none) : pAll pi (xs ++ ys) = none := by
  unfold pAll at h ⊢
  rw [List.foldl_append, h]
  exact pFold_none pi ys
theorem ds_lines {s : ByteArray} {ys : List Sm} (h : unS ys = linesOf s) : ds ys = spl s.data.toList := by
  unfold ds
  rw [h]
  simp [linesOf, linesFrom, mkB_data, Function.comp_def]
theorem ds_prefix {s : ByteArray} {ys : List Sm} (h : unS ys <+: linesOf s) : ∃ zs, spl s.data.toList = ds ys ++ zs := by
  obtain ⟨r, hr⟩ := h
  refine ⟨r.map (fun x => x.data.toList), ?_⟩
  have e : (linesOf s).map (fun x => x.data.toList) = spl s.data.toList := by simp [linesOf, linesFrom, mkB_data, Function.comp_def]
  rw [← e, ← hr, List.map_append]
  rfl
theorem dcI_stop {s : ByteArray} {ys : List Sm} (h : unS ys <+: linesOf s) (hp : pAll pI (ds ys) = none) : dcI pI s = none := by
  obtain ⟨zs, e⟩ := ds_prefix h
  unfold dcI
  rw [e, pAll_pre pI hp]
theorem dcI_end {s : ByteArray} {ys : List Sm} {c : Cm4} (h : unS ys = linesOf s) (hp : pAll pI (ds ys) = some c) : dcI pI s = if cmF c.1 c.2.1 c.2.2.1 c.2.2.2 = 0 ∧ cmL c.1 c.2.1 c.2.2.1 c.2.2.2 = s.data.toList then some c else none := by
  unfold dcI
  rw [← ds_lines h, hp]
theorem dcI_tf {s : ByteArray} (h : ¬ tf s = 0) : dcI pI s = none := by
  cases e : dcI pI s with
  | none => rfl
  | some c =>
    obtain ⟨h0, h1⟩ := dcI_some e
    obtain ⟨k0, k1, k2⟩ := cmF_zero h0
    have := tf_commit k0 k1 k2
    rw [h1] at this
    exact absurd this h
/-- Memory while a commit is read: the two results, the commit and the error. -/
structure St4 (r B : Nat) (t : ByteArray) (v : Value) (tm : Int) (no : ByteArray) (W : World) : Prop where
  res : W.heap[r]? = some (.cells #[.string ⟨#[]⟩, .slice none 0 0, .int .i64 0, .string ⟨#[]⟩] 24 (0, 0))
  rer : W.heap[r + 1]? = some (.cells #[.nilIface] 58 (0, 0))
  com : W.heap[B]? = some (.cells #[.string t, v, .int .i64 tm, .string no] 24 (0, 0))
  err : W.heap[B + 1]? = some (.cells #[.nilIface] 58 (0, 0))
theorem blk_own {X Y : World} {b : Nat} {vs : Array Value} {t : TypeId} {fz : Nat × Nat} {row : Option Nat} (h : X.heap[b]? = some (.cells vs t fz)) (hg : X.grownBy Y row) (hr : ∀ r, row = some r → ∃ o : Obj, X.heap[r]? = some o ∧ o.isCells = false) : Y.heap[b]? = some (.cells vs t fz) := by
  refine (hg.block b (Array.getElem?_eq_some_iff.1 h).1 fun e => ?_).trans h
  obtain ⟨o, ho, hc⟩ := hr b e.symm
  rw [h] at ho; cases ho; cases hc
theorem blk_below {X Y : World} {b : Nat} {o : Obj} (h : X.heap[b]? = some o) (hb : Below X.heap.size X Y) : Y.heap[b]? = some o := (hb.block b (Array.getElem?_eq_some_iff.1 h).1).trans h
theorem blk_set {X : World} {b c o : Nat} {ob : Obj} {v : Value} (h : X.heap[b]? = some ob) (hne : ¬ b = c) : (X.setCell ⟨c, o, none⟩ v).heap[b]? = some ob := (Below.heap_setCell _ _ _ _ (by simpa using hne)).trans h
theorem St4.own {r B : Nat} {t no : ByteArray} {v : Value} {tm : Int} {X Y : World} {row : Option Nat} (h : St4 r B t v tm no X) (hg : X.grownBy Y row) (hr : ∀ r, row = some r → ∃ o : Obj, X.heap[r]? = some o ∧ o.isCells = false) : St4 r B t v tm no Y :=
  ⟨blk_own h.res hg hr, blk_own h.rer hg hr, blk_own h.com hg hr, blk_own h.err hg hr⟩
theorem St4.below {r B : Nat} {t no : ByteArray} {v : Value} {tm : Int} {X Y : World} (h : St4 r B t v tm no X) (hb : Below X.heap.size X Y) : St4 r B t v tm no Y :=
  ⟨blk_below h.res hb, blk_below h.rer hb, blk_below h.com hb, blk_below h.err hb⟩
theorem St4.set {r B o : Nat} {t t' no no' : ByteArray} {v v' u : Value} {tm tm' : Int} {X : World} (h : St4 r B t v tm no X) (hB : r + 2 ≤ B) (e : #[Value.string t, v, .int .i64 tm, .string no].setIfInBounds o u = #[.string t', v', .int .i64 tm', .string no']) : St4 r B t' v' tm' no' (X.setCell ⟨B, o, none⟩ u) :=
  ⟨blk_set h.res (by omega), blk_set h.rer (by omega), by
    rw [← e]
    have := h.com
    simp [World.setCell, Array.getElem?_modify, this], blk_set h.err (by omega)⟩
/-- What holds behind the lines pre. -/
def IV (r B : Nat) (pre : List Sm) (W : World) : Prop := ∃ (t : ByteArray) (ps : List ByteArray) (tm : Int) (no : ByteArray) (v : Value), pAll pI (ds pre) = some (t, ps, tm, no) ∧ ps.length ≤ pre.length ∧ St4 r B t v tm no W ∧ W.ownsRow (B + 3) 9 1 v ps.length (ps.map Value.string)
theorem IV_own (r B : Nat) : Own (IV r B) := by
  rintro pre X Y row ⟨t, ps, tm, no, v, hp, hl, hS, hr⟩ hg hrow
  refine ⟨t, ps, tm, no, v, hp, hl, hS.own hg hrow, hr.kept hg ?_⟩
  rcases hr.2 with ⟨rfl, _⟩ | ⟨g, cap, cur, rfl, _, hgb, _⟩
  · exact .inl rfl
  · refine .inr fun e' => ?_
    obtain ⟨o, ho, hc⟩ := hrow g (by simpa [Value.ownBlock] using e'.symm)
    rw [hgb] at ho; cases ho; cases hc
/-- What holds where the reading stopped. -/
def IX (r : Nat) (c : Code) (pre : List Sm) (W : World) : Prop := c = .ret ∧ pAll pI (ds pre) = none ∧ W.heap[r]? = some (.cells #[.string ⟨#[]⟩, .slice none 0 0, .int .i64 0, .string ⟨#[]⟩] 24 (0, 0)) ∧ ∃ (T : TypeId) (u : Value), W.heap[r + 1]? = some (.cells #[.iface 100 (.agg #[.iface T u])] 58 (0, 0))
theorem IX_own (r : Nat) (c : Code) : Own (IX r c) := by
  rintro pre X Y row ⟨hc, hp, h0, T, u, h1⟩ hg hrow
  exact ⟨hc, hp, blk_own h0 hg hrow, T, u, blk_own h1 hg hrow⟩
theorem keeps_below {W W' : World} (h : Below W.heap.size W W') : KeepsOthers W W' := KeepsOthers.of_grownBy (grown_of_below h none) (fun j o ej _ => by cases ej)
theorem rowKept {W W' : World} {base : Nat} {e : TypeId} {size n : Nat} {v : Value} {xs : List Value} (h : W.ownsRow base e size v n xs) (hb : Below W.heap.size W W') : W'.ownsRow base e size v n xs := h.kept (grown_of_below hb none) (by cases hv : v.ownBlock <;> simp)
/-- One field of the commit is set. -/
theorem set_end {r B o : Nat} {w W W3 : World} {t t' no no' : ByteArray} {v : Value} {u : Value} {tm tm' : Int} {ps : List ByteArray} (hB : r + 2 ≤ B) (h3 : Below W.heap.size W W3) (hS : St4 r B t v tm no W3) (hrow : W3.ownsRow (B + 3) 9 1 v ps.length (ps.map Value.string)) (hb : Below r w W) (hsz : B + 3 ≤ W.heap.size) (hr : r ≤ W.heap.size)
    (e : #[Value.string t, v, .int .i64 tm, .string no].setIfInBounds o u = #[.string t', v, .int .i64 tm', .string no']) :
    KeepsOthers W (W3.setCell ⟨B, o, none⟩ u) ∧ KeepB (B + 2) W (W3.setCell ⟨B, o, none⟩ u) ∧ St4 r B t' v tm' no' (W3.setCell ⟨B, o, none⟩ u) ∧ (W3.setCell ⟨B, o, none⟩ u).ownsRow (B + 3) 9 1 v ps.length (ps.map Value.string) ∧ Below r w (W3.setCell ⟨B, o, none⟩ u) ∧ B + 3 ≤ (W3.setCell ⟨B, o, none⟩ u).heap.size :=
  ⟨(keeps_below h3).trans (KeepsOthers.setCell _ _ _), (Below.heap_setCell _ _ _ _ (by simp)).trans (h3.block _ (by omega)), hS.set hB e, ownsRow_setCell_below hrow (a := ⟨B, o, none⟩) (show B < B + 3 by omega) u, (hb.trans (h3.mono hr)).setCell (p := ⟨B, o, none⟩) (show r ≤ B by omega) u, by simpa using Nat.le_trans hsz h3.size⟩
theorem app_end {r B : Nat} {w W u6 w3 : World} {t no : ByteArray} {v v' : Value} {tm : Int} {ps : List ByteArray} {x : ByteArray} {tmp : Obj} (hB : r + 2 ≤ B) (h3 : Below W.heap.size W u6) (hS : St4 r B t v tm no u6) (hrow : u6.ownsRow (B + 3) 9 1 v ps.length (ps.map Value.string)) (hb : Below r w W) (hsz : B + 3 ≤ W.heap.size) (hr : r ≤ W.heap.size)
    (hown' : w3.ownsRow (B + 3) 9 1 v' (ps.length + 1) (ps.map Value.string ++ [.string x])) (hgrow : (u6.alloc tmp).grownBy w3 v.ownBlock) :
    (w3.cell? ⟨B, 1, none⟩ = some v ∧ w3.frozen? ⟨B, 1, none⟩ = false) ∧ KeepsOthers W (w3.setCell ⟨B, 1, none⟩ v') ∧ KeepB (B + 2) W (w3.setCell ⟨B, 1, none⟩ v') ∧ St4 r B t v' tm no (w3.setCell ⟨B, 1, none⟩ v') ∧ (w3.setCell ⟨B, 1, none⟩ v').ownsRow (B + 3) 9 1 v' (ps ++ [x]).length ((ps ++ [x]).map Value.string) ∧ Below r w (w3.setCell ⟨B, 1, none⟩ v') ∧ B + 3 ≤ (w3.setCell ⟨B, 1, none⟩ v').heap.size := by
  have hge : ∀ j, v.ownBlock = some j → B + 3 ≤ j := fun j hj => (hrow.lt j hj).1
  have z6 : B + 3 ≤ u6.heap.size := Nat.le_trans hsz h3.size
  have kb : ∀ k o, k < B + 3 → u6.heap[k]? = some o → w3.heap[k]? = some o := fun k o hk ho =>
    (hgrow.block k (by simp; omega) (fun e => by have := hge k e.symm; omega)).trans ((Below.heap_alloc _ _ _ (by omega)).trans ho)
  have S3 : St4 r B t v tm no w3 := ⟨kb _ _ (by omega) hS.res, kb _ _ (by omega) hS.rer, kb _ _ (by omega) hS.com, kb _ _ (by omega) hS.err⟩
  have kO : KeepsOthers W w3 := ((keeps_below h3).trans (KeepsOthers.alloc u6 tmp)).trans (KeepsOthers.of_grownBy hgrow fun j o ej hj => by
    rcases (hrow.alloc tmp).2 with ⟨rfl, _⟩ | ⟨g, cap, cur, rfl, _, hgb, _⟩
    · simp [Value.ownBlock] at ej
    · obtain rfl : g = j := by simpa [Value.ownBlock] using ej
      rw [hgb] at hj; cases hj; rfl)
  have z3 : B + 3 ≤ w3.heap.size := by have := hgrow.size; simp at this; omega
  have b6 : Below r w u6 := hb.trans (h3.mono hr)
  have b3 : Below r w w3 := (b6.alloc (by omega) tmp).grown hgrow (by simp; omega) (fun j ej => by have := hge j ej; omega)
  refine ⟨⟨by rw [Lib.cell_of_heap S3.com]; rfl, Lib.frozen_of_heap S3.com 1⟩, kO.trans (KeepsOthers.setCell _ _ _), ?_, S3.set hB rfl, ?_, b3.setCell (p := ⟨B, 1, none⟩) (show r ≤ B by omega) v', by simpa using z3⟩
  · have e1 : (w3.setCell ⟨B, 1, none⟩ v').heap[B + 2]? = w3.heap[B + 2]? := Below.heap_setCell _ _ _ _ (by simp)
    have e2 : w3.heap[B + 2]? = (u6.alloc tmp).heap[B + 2]? := hgrow.block _ (by simp; omega) (fun e => by have := hge _ e.symm; omega)
    exact e1.trans (e2.trans ((Below.heap_alloc _ _ _ (by omega)).trans (h3.block _ (by omega))))
  · rw [List.length_append, List.map_append]
    exact ownsRow_setCell_below hown' (a := ⟨B, 1, none⟩) (show B < B + 3 by omega) v'
theorem rowCap {w : World} {base : Nat} {e : TypeId} {size n : Nat} {a : Option Addr} {c m : Nat} {xs : List Value} (h : w.ownsRow base e size (.slice a m c) n xs) : n ≤ c := by
  rcases h.2 with ⟨h', h0⟩ | ⟨g, cap, cur, h', _, _, h2⟩
  · omega
  · simp only [Value.slice.injEq] at h'
    obtain ⟨_, _, rfl⟩ := h'
    first | exact h2.1 | exact h2.2.1 | exact h2.2.2.1 | omega
theorem pStep_par {c d : Cm4} {x : List UInt8} (h : pStep pI (some c) x = some d) : d.2.1 = c.2.1 ∨ d.2.1 = c.2.1 ++ [mkB (aft (trimL x))] := by
  obtain ⟨t, ps, tm, no⟩ := c
  simp only [pStep] at h
  split at h
  · obtain rfl := Option.some.inj h; exact .inl rfl
  · split at h
    · obtain rfl := Option.some.inj h; exact .inr rfl
    · split at h
      · split at h
        · cases h
        · obtain rfl := Option.some.inj h; exact .inl rfl
      · split at h
        · obtain rfl := Option.some.inj h; exact .inl rfl
        · obtain rfl := Option.some.inj h; exact .inl rfl
theorem pFold_sizes {M : Nat} : ∀ (xs : List (List UInt8)) (c c' : Cm4), (∀ x ∈ xs, x.length ≤ M) → (∀ p ∈ c.2.1, p.size ≤ M) → xs.foldl (pStep pI) (some c) = some c' → ∀ p ∈ c'.2.1, p.size ≤ M
  | [], c, c', _, hc, h => by obtain rfl := Option.some.inj h; exact hc
  | x :: xs, c, c', hx, hc, h => by
    rw [List.foldl_cons] at h
    cases e : pStep pI (some c) x with
    | none => rw [e, pFold_none] at h; cases h
    | some d =>
      rw [e] at h
      refine pFold_sizes xs d c' (fun y hy => hx y (List.mem_cons_of_mem _ hy)) (fun p hp => ?_) h
      rcases pStep_par e with q | q
      · rw [q] at hp; exact hc p hp
      · rw [q] at hp
        rcases List.mem_append.1 hp with k | k
        · exact hc p k
        · rw [List.mem_singleton.1 k, mkB_size]
          have h1 := hx x List.mem_cons_self
          have h2 := trim_len x
          have h3 := aft_len (trimL x)
          omega
theorem pSizes (ys : List Sm) {t : ByteArray} {ps : List ByteArray} {tm : Int} {no : ByteArray} (h : pAll pI (ds ys) = some (t, ps, tm, no)) (k : Nat) (hk : k < ps.length) : (ps.getD k ByteArray.empty).size ≤ 1048576 := by
  have := pFold_sizes (M := 1048576) (ds ys) _ _ (fun x hx => by
    unfold ds unS at hx
    rw [List.map_map] at hx
    obtain ⟨y, _, rfl⟩ := List.mem_map.1 hx
    show y.1.data.toList.length ≤ 1048576
    rw [size_eq]; exact y.2) (fun p hp => by cases hp) h
  refine this _ ?_
  rw [List.getD, List.getElem?_eq_getElem hk]
  exact List.getElem_mem hk
end Go.Proofs.YtgidcncmicmggamGreatDoor.Dc
/- Contracts of the library that are laid at this program: Tryz.stringslite_Clone. No statement is proved here. -/
namespace Go.Proofs
open Go.Shelf
def Tryz.laysM316_ren : Go.Shelf.Ren := ⟨fun | 316 => 102 | n => n, fun | 9 => 9 | 3 => 3 | 4 => 4 | 37 => 145 | 0 => 0 | 127 => 201 | 5 => 5 | n => n, fun | n => n⟩
theorem Tryz.laysM316 : Go.Proofs.LaysM.n316 Tryz.prog Tryz.laysM316_ren := {
  mixed := by kernel_rfl
  f316 := Tryz.func102.trans (congrArg some (by kernel_rfl))
  t0 := Tryz.underlying0
  a0 := Tryz.isAgg0
  z0 := Tryz.sizeOf0
  v0 := Tryz.zeroValue0
  t3 := Tryz.underlying3
  a3 := Tryz.isAgg3
  z3 := Tryz.sizeOf3
  v3 := Tryz.zeroValue3
  t4 := Tryz.underlying4
  a4 := Tryz.isAgg4
  z4 := Tryz.sizeOf4
  v4 := Tryz.zeroValue4
  t9 := Tryz.underlying9
  a9 := Tryz.isAgg9
  z9 := Tryz.sizeOf9
  v9 := Tryz.zeroValue9
  t37 := Tryz.underlying145
  a37 := Tryz.isAgg145
  z37 := Tryz.sizeOf145
  v37 := Tryz.zeroValue145
  t127 := Tryz.underlying201
  a127 := Tryz.isAgg201
  z127 := Tryz.sizeOf201
  v127 := Tryz.zeroValue201
  t5 := Tryz.underlying5
  a5 := Tryz.isAgg5
  z5 := Tryz.sizeOf5
  v5 := Tryz.zeroValue5
  i0 := by kernel_rfl
  i3 := by kernel_rfl
  i4 := by kernel_rfl
  i5 := by kernel_rfl
  i9 := by kernel_rfl
  i37 := by kernel_rfl
  i127 := by kernel_rfl }
open Go.RowKit in
theorem Tryz.stringslite_Clone (s : ByteArray) (w : World) (hlim : s.size ≤ 281474976710656) :
    Calls Tryz.prog 102 #[.string s] w fun e w' => e = .returned (.string s) ∧ Below w.heap.size w w' := Any.stringslite_Clone Tryz.laysM316 s w hlim
end Go.Proofs
/- The contract of impl.appendCopies: lines that are copied behind others. No statement is proved here. -/
namespace Go.Proofs.YtgidcncmicmggamGreatDoor
open Go.ChangeShapes Go.WideShapes Go.ChangeAt Go.RowKit

theorem cloneS (s : ByteArray) (w : World) (hlim : s.size ≤ 281474976710656) :
    Calls Tryz.prog 62 #[.string s] w fun e w' => e = .returned (.string s) ∧ Below w.heap.size w w' := by
  go_enter Tryz.func62, Tryz.ntmps62
  go_wp2_with (go_at_call 102; refine (Tryz.stringslite_Clone _ _ hlim).mono ?_; rintro e w' ⟨rfl, hb⟩)
  go_ret
  exact ⟨rfl, hb⟩
theorem take_map_snoc (ss ms : List ByteArray) (k : Nat) (h : k < ms.length) : (ss ++ ms.take (k + 1)).map Value.string = (ss ++ ms.take k).map Value.string ++ [.string (ms.getD k ByteArray.empty)] := by
  rw [List.take_succ_eq_append_getElem h, ← List.append_assoc, List.map_append, getD_at ms k h]; rfl
theorem grownNew {a b c : World} {row row' : Option Nat} (h : a.grownBy b row) (g : b.grownBy c row') (hr : ∀ j, row' = some j → row = some j ∨ a.heap.size ≤ j) : a.grownBy c row :=
  ⟨g.os.trans h.os, g.tape.trans h.tape, g.output.trans h.output, Nat.le_trans h.size g.size, fun k hk hne => (g.block k (Nat.lt_of_lt_of_le hk h.size) (fun e => by
    rcases hr k e.symm with h' | h'
    · exact hne h'.symm
    · omega)).trans (h.block k hk hne)⟩
/-- A row of the lines zs; of the old blocks the old row's alone may have turned. -/
def CopiesPost (base n : Nat) (v : Value) (zs : List ByteArray) (w : World) (e : Ending) (w' : World) : Prop := ∃ v', e = .returned v' ∧ w'.ownsRow base 9 1 v' n (zs.map Value.string) ∧ w.grownBy w' v.ownBlock ∧ ∀ j, v'.ownBlock = some j → v.ownBlock = some j ∨ w.heap.size ≤ j

theorem segSSB {B : Nat} {w : World} {a : Option Addr} {xs : List ByteArray} (h : SSB B w a xs) (i j c : Nat) (h1 : i ≤ j) (h2 : j ≤ xs.length) (hc : xs.length ≤ c) :
    SSB B w (if c = i then a else a.map (·.add i)) ((xs.drop i).take (j - i)) := by
  have hl : ((xs.drop i).take (j - i)).length = j - i := by rw [List.length_take, List.length_drop]; omega
  have hg : ∀ k, k < j - i → ((xs.drop i).take (j - i)).getD k ByteArray.empty = xs.getD (i + k) ByteArray.empty := by
    intro k hk
    simp [List.getD, hk]
  refine ⟨fun k hk => ?_, fun k hk => ?_⟩
  · rw [hl] at hk
    rw [hg k hk]; exact h.1 (i + k) (by omega)
  · rw [hl] at hk
    obtain ⟨b, off, e, hb, hcell⟩ := h.2 (i + k) (by omega)
    subst e
    refine ⟨b, off + i, ?_, hb, ?_⟩
    · rw [if_neg (by omega), Option.map_some, add_plain]
    · rw [hg k hk, Nat.add_assoc]; exact hcell
theorem seg_small {xs : List ByteArray} {Z : Nat} (hz : ∀ x ∈ xs, x.size ≤ Z) (i j : Nat) : ∀ k, k < ((xs.drop i).take (j - i)).length → (((xs.drop i).take (j - i)).getD k ByteArray.empty).size ≤ Z := by
  intro k hk
  rw [getD_at _ k hk]
  exact hz _ (List.mem_of_mem_drop (List.mem_of_mem_take (List.getElem_mem hk)))
end Go.Proofs.YtgidcncmicmggamGreatDoor
/- The contract of the program's readCommit. No statement is proved here. -/
set_option linter.unusedVariables false
namespace Go.Proofs.YtgidcncmicmggamGreatDoor.Dc
open Go.RowKit Go.Shelf
open Go.Proofs.YtgidcncmicmggamGreatDoor.Te
attribute [local go_sem] Oper.semAt_some

/-- How readCommit ends. -/
def RC (s : ByteArray) (w : World) (e : Ending) (w' : World) : Prop := Below w.heap.size w w' ∧
  ((∃ (t : ByteArray) (ps : List ByteArray) (tm : Int) (no : ByteArray) (v : Value), dcI pI s = some (t, ps, tm, no) ∧ e = .returned (.tuple #[.agg #[.string t, v, .int .i64 tm, .string no], .nilIface]) ∧ w'.ownsRow (w.heap.size + 2) 9 1 v ps.length (ps.map Value.string)) ∨
    (dcI pI s = none ∧ ∃ (t : ByteArray) (a : Option Addr) (n c : Nat) (tm : Int) (no : ByteArray) (T : TypeId) (u : Value), e = .returned (.tuple #[.agg #[.string t, .slice a n c, .int .i64 tm, .string no], .iface 100 (.agg #[.iface T u])])))
theorem p_tree {t : ByteArray} {ps : List ByteArray} {tm : Int} {no : ByteArray} {x : List UInt8} (h : mkB (bef (trimL x)) = wTree) : pStep pI (some (t, ps, tm, no)) x = some (mkB (aft (trimL x)), ps, tm, no) := by
  have h' : bef (trimL x) = wTree.data.toList := by rw [← h, mkB_data]
  simp only [pStep]; rw [if_pos h']
theorem p_parent {t : ByteArray} {ps : List ByteArray} {tm : Int} {no : ByteArray} {x : List UInt8} (h : mkB (bef (trimL x)) = wPar) : pStep pI (some (t, ps, tm, no)) x = some (t, ps ++ [mkB (aft (trimL x))], tm, no) := by
  have h' : bef (trimL x) = wPar.data.toList := by rw [← h, mkB_data]
  simp only [pStep]; rw [h', if_neg (by decide), if_pos rfl]
theorem p_time {t : ByteArray} {ps : List ByteArray} {tm : Int} {no : ByteArray} {x : List UInt8} (h : mkB (bef (trimL x)) = wTime) : pStep pI (some (t, ps, tm, no)) x = match pI (mkB (aft (trimL x))).data.toList with
    | none => none
    | some n => some (t, ps, n, no) := by
  have h' : bef (trimL x) = wTime.data.toList := by rw [← h, mkB_data]
  simp only [pStep]; rw [h', if_neg (by decide), if_neg (by decide), if_pos rfl, mkB_data]
  cases pI (aft (trimL x)) <;> rfl
theorem p_note {t : ByteArray} {ps : List ByteArray} {tm : Int} {no : ByteArray} {x : List UInt8} (h : mkB (bef (trimL x)) = wNote) : pStep pI (some (t, ps, tm, no)) x = some (t, ps, tm, mkB (aft (trimL x))) := by
  have h' : bef (trimL x) = wNote.data.toList := by rw [← h, mkB_data]
  simp only [pStep]; rw [h', if_neg (by decide), if_neg (by decide), if_neg (by decide), if_pos rfl]
theorem p_other {t : ByteArray} {ps : List ByteArray} {tm : Int} {no : ByteArray} {x : List UInt8} (h1 : ¬ mkB (bef (trimL x)) = wTree) (h2 : ¬ mkB (bef (trimL x)) = wPar) (h3 : ¬ mkB (bef (trimL x)) = wTime) (h4 : ¬ mkB (bef (trimL x)) = wNote) : pStep pI (some (t, ps, tm, no)) x = some (t, ps, tm, no) := by
  have f : ∀ {w : ByteArray}, ¬ mkB (bef (trimL x)) = w → ¬ bef (trimL x) = w.data.toList := fun h e => h (by rw [e]; rfl)
  simp only [pStep]; rw [if_neg (f h1), if_neg (f h2), if_neg (f h3), if_neg (f h4)]
theorem one_new (w : World) (x : Value) (t : TypeId) : ∀ (j : Nat) (u : Value), [x][j]? = some u → (w.alloc (.cells #[x] t)).cell? ((⟨w.heap.size, 0, none⟩ : Addr).add j) = some u := fun j u h => by
  have := Rs.new w #[x] t j u h
  rw [WideShapes.add_plain, Nat.zero_add]
  exact this
theorem five {p1 p2 p3 p4 : Prop} [Decidable p1] [Decidable p2] [Decidable p3] [Decidable p4] : p1 ∨ (¬ p1 ∧ p2) ∨ (¬ p1 ∧ ¬ p2 ∧ p3) ∨ (¬ p1 ∧ ¬ p2 ∧ ¬ p3 ∧ p4) ∨ (¬ p1 ∧ ¬ p2 ∧ ¬ p3 ∧ ¬ p4) := by
  by_cases h1 : p1
  · exact .inl h1
  · by_cases h2 : p2
    · exact .inr (.inl ⟨h1, h2⟩)
    · by_cases h3 : p3
      · exact .inr (.inr (.inl ⟨h1, h2, h3⟩))
      · by_cases h4 : p4
        · exact .inr (.inr (.inr (.inl ⟨h1, h2, h3, h4⟩)))
        · exact .inr (.inr (.inr (.inr ⟨h1, h2, h3, h4⟩)))
theorem k_t {x w : ByteArray} (h : x = w) : (x.toList == w.data.toList) = true := by rw [h, ByteArray.toList_eq]; simp
theorem k_f {x w : ByteArray} (h : ¬ x = w) : (x.toList == w.data.toList) = false := by
  rw [ByteArray.toList_eq, beq_eq_false_iff_ne]
  exact fun e => h (WideShapes.bytes_inj e)
theorem blk_put {X : World} {b o : Nat} {vs : Array Value} {t : TypeId} {u : Value} (h : X.heap[b]? = some (.cells vs t (0, 0))) : (X.setCell ⟨b, o, none⟩ u).heap[b]? = some (.cells (vs.setIfInBounds o u) t (0, 0)) := by simp [World.setCell, Array.getElem?_modify, h]
theorem Below.of_eq {r : Nat} {w W : World} (hr : w.heap.size = r) (h : Below r w W) : Below w.heap.size w W := by rw [hr]; exact h
theorem St4.setErr {r B : Nat} {t no : ByteArray} {v : Value} {tm : Int} {X : World} (h : St4 r B t v tm no X) (hB : r + 2 ≤ B) : St4 r B t v tm no (X.setCell ⟨B + 1, 0, none⟩ .nilIface) :=
  ⟨blk_set h.res (by omega), blk_set h.rer (by omega), blk_set h.com (by omega), by
    have := h.err
    simp [World.setCell, Array.getElem?_modify, this]⟩
theorem ret_end {r B : Nat} {w W U : World} {TT : TypeId} {uu : Value} {pre : List Sm} (hk : KeepsOthers W U) (h0 : U.heap[r]? = some (.cells #[.string ⟨#[]⟩, .slice none 0 0, .int .i64 0, .string ⟨#[]⟩] 24 (0, 0))) (h1 : U.heap[r + 1]? = some (.cells #[.nilIface] 58 (0, 0))) (hb : Below r w U) (hp : pAll pI (ds pre) = none) :
    KeepsFrom (B + 3) W (((((U.setCell ⟨r, 0, none⟩ (.string ⟨#[]⟩)).setCell ⟨r, 1, none⟩ (.slice none 0 0)).setCell ⟨r, 2, none⟩ (.int .i64 0)).setCell ⟨r, 3, none⟩ (.string ⟨#[]⟩)).setCell ⟨r + 1, 0, none⟩ (.iface 100 (.agg #[.iface TT uu]))) ∧ (IX r .ret pre (((((U.setCell ⟨r, 0, none⟩ (.string ⟨#[]⟩)).setCell ⟨r, 1, none⟩ (.slice none 0 0)).setCell ⟨r, 2, none⟩ (.int .i64 0)).setCell ⟨r, 3, none⟩ (.string ⟨#[]⟩)).setCell ⟨r + 1, 0, none⟩ (.iface 100 (.agg #[.iface TT uu]))) ∧ Below r w (((((U.setCell ⟨r, 0, none⟩ (.string ⟨#[]⟩)).setCell ⟨r, 1, none⟩ (.slice none 0 0)).setCell ⟨r, 2, none⟩ (.int .i64 0)).setCell ⟨r, 3, none⟩ (.string ⟨#[]⟩)).setCell ⟨r + 1, 0, none⟩ (.iface 100 (.agg #[.iface TT uu])))) := by
  refine ⟨(((((hk.trans (KeepsOthers.setCell _ _ _)).trans (KeepsOthers.setCell _ _ _)).trans (KeepsOthers.setCell _ _ _)).trans (KeepsOthers.setCell _ _ _)).trans (KeepsOthers.setCell _ _ _)).from _, ⟨rfl, hp, ?_, TT, uu, ?_⟩, ?_⟩
  · exact blk_set (blk_put (blk_put (blk_put (blk_put h0)))) (by omega)
  · exact blk_put (blk_set (blk_set (blk_set (blk_set h1 (by omega)) (by omega)) (by omega)) (by omega))
  · exact ((((hb.setCell (p := ⟨r, 0, none⟩) (Nat.le_refl _) _).setCell (p := ⟨r, 1, none⟩) (Nat.le_refl _) _).setCell (p := ⟨r, 2, none⟩) (Nat.le_refl _) _).setCell (p := ⟨r, 3, none⟩) (Nat.le_refl _) _).setCell (p := ⟨r + 1, 0, none⟩) (show r ≤ r + 1 by omega) _
set_option maxRecDepth 100000 in
set_option maxHeartbeats 8000000 in
theorem readCommit_ok (s : ByteArray) (w : World) (hs : s.size ≤ 1048576) (h0 : tf s = 0) (hTa : TaG w) (hgB : 6 < w.heap.size) (ho : OfG w) (hoB : 0 < w.heap.size) (hP : PeG w) (hP1 : 3 < w.heap.size) (hP2 : 4 < w.heap.size) :
    Calls Tryz.prog 30 #[.string s] w fun e w' => RC s w e w' := by
  have hT := fun w => implTextFault s w hs
  rw [h0] at hT
  obtain ⟨i0, hi, hz0, hz1, hz2⟩ := info_parts infoString
  have hll := lines_le s
  obtain ⟨r, hr⟩ : ∃ r, w.heap.size = r := ⟨_, rfl⟩
  obtain ⟨W0, hW0⟩ : ∃ W, (w.alloc (.cells #[.string ⟨#[]⟩, .slice none 0 0, .int .i64 0, .string ⟨#[]⟩] 24)).alloc (.cells #[.nilIface] 58) = W := ⟨_, rfl⟩
  have b0 : Below r w W0 := by rw [← hW0, ← hr]; exact (allocBelow _ _).trans ((allocBelow _ _).mono (by simp))
  have HZ0 : Hid (W0.heap.size = r + 2) := by show _ = _; rw [← hW0, ← hr]; simp
  have q0 : W0.heap[r]? = some (.cells #[.string ⟨#[]⟩, .slice none 0 0, .int .i64 0, .string ⟨#[]⟩] 24 (0, 0)) := by rw [← hW0, ← hr]; exact blk_below (World.alloc_heap_new w _) (allocBelow _ _)
  have q1 : W0.heap[r + 1]? = some (.cells #[.nilIface] 58 (0, 0)) := by
    rw [← hW0, ← hr]
    have := World.alloc_heap_new (w.alloc (.cells #[.string ⟨#[]⟩, .slice none 0 0, .int .i64 0, .string ⟨#[]⟩] 24)) (.cells #[.nilIface] 58)
    rwa [World.size_alloc] at this
  refine (callsIn_wide (n := 5)).1 ?_
  refine callsIn_of_wp_marks Tryz.func30 rfl trivial ?_ rfl
  simp only [Tryz.ntmps30, List.size_toArray, List.length_cons, List.length_nil, Nat.reduceAdd, Nat.reduceSub, Array.replicate_succ, Array.replicate_zero, List.push_toArray, List.append_toArray, List.nil_append, List.cons_append]
  gi_wp2_with (refine ⟨trivial, ?_⟩; gi_at_call 59; refine (callsIn_wide.2 (hT _)).mono ?_; rintro e w1 ⟨rfl, hb1⟩)
  clear hT
  refine ⟨trivial, ?_⟩
  refine (callsIn_wide.2 (linesIn_any _ _)).mono ?_; rintro e w' ⟨rfl, rfl⟩
  gi_wp2
  have S1 : r + 2 ≤ w1.heap.size := by
    have h1 := hb1.size
    have h2 := HZ0.out
    omega
  replace b0 : Below r w w1 := b0.trans (hb1.mono (by have := HZ0.out; omega))
  replace q0 := blk_below q0 hb1
  replace q1 := blk_below q1 hb1
  clear hb1 hW0 HZ0
  obtain ⟨B, hBe⟩ : ∃ B, w1.heap.size = B := ⟨_, rfl⟩
  obtain ⟨W3, hW3⟩ : ∃ W, ((w1.alloc (.cells #[.string ⟨#[]⟩, .slice none 0 0, .int .i64 0, .string ⟨#[]⟩] 24)).alloc (.cells #[.nilIface] 58)).alloc (.cells #[.string s] 9) = W := ⟨_, rfl⟩
  have b3 : Below B w1 W3 := by rw [← hW3, ← hBe]; exact (allocBelow _ _).trans (((allocBelow _ _).mono (by simp)).trans ((allocBelow _ _).mono (by simp; omega)))
  have z3 : W3.heap.size = B + 3 := by rw [← hW3, ← hBe]; simp
  have q2 : W3.heap[B]? = some (.cells #[.string ⟨#[]⟩, .slice none 0 0, .int .i64 0, .string ⟨#[]⟩] 24 (0, 0)) := by rw [← hW3, ← hBe]; exact blk_below (blk_below (World.alloc_heap_new w1 _) (allocBelow _ _)) (allocBelow _ _)
  have q3 : W3.heap[B + 1]? = some (.cells #[.nilIface] 58 (0, 0)) := by
    rw [← hW3, ← hBe]
    have := World.alloc_heap_new (w1.alloc (.cells #[.string ⟨#[]⟩, .slice none 0 0, .int .i64 0, .string ⟨#[]⟩] 24)) (.cells #[.nilIface] 58)
    rw [World.size_alloc] at this
    exact blk_below this (allocBelow _ _)
  have q4 : W3.heap[B + 1 + 1]? = some (.cells #[.string s] 9 (0, 0)) := by
    rw [← hW3, ← hBe]
    have := World.alloc_heap_new ((w1.alloc (.cells #[.string ⟨#[]⟩, .slice none 0 0, .int .i64 0, .string ⟨#[]⟩] 24)).alloc (.cells #[.nilIface] 58)) (.cells #[.string s] 9)
    rwa [World.size_alloc, World.size_alloc] at this
  have hrB : r + 2 ≤ B := by omega
  have S3 : St4 r B ⟨#[]⟩ (.slice none 0 0) 0 ⟨#[]⟩ W3 := ⟨blk_below q0 (by rw [hBe]; exact b3), blk_below q1 (by rw [hBe]; exact b3), q2, q3⟩
  have B3 : Below r w W3 := b0.trans (b3.mono (by omega))
  rw [hW3]
  rw [hBe]
  clear hW3 q0 q1 q2 q3 b3 b0
  refine wpIn_rangeFunc_ownG rfl (by omega) (gf := 98) (lb := #[.pointer (some ⟨B + 1 + 1, 0, none⟩)]) rfl trivial (enters_of Tryz.func98 (by kernel_rfl) rfl)
    (lines_stopsS _ (by omega) (B + 1 + 1) s hs W3 (by omega) q4) keepB_t (keepB_b (by omega)) (Below.refl _ _) (fun _ => rfl)
    (fun pre W => IV r B pre W ∧ Below r w W ∧ B + 3 ≤ W.heap.size)
    (fun c pre W => IX r c pre W ∧ Below r w W)
    (OwnFrom.and (Own.from (IV_own r B) _) (OwnFrom.and (ownFrom_below (Nat.le_of_eq hr.symm) (by omega)) (fun _ _ _ _ hs hg _ => Nat.le_trans hs hg.size)))
    (fun c => OwnFrom.and (Own.from (IX_own r c) _) (ownFrom_below (Nat.le_of_eq hr.symm) (by omega)))
    ⟨⟨_, [], 0, _, _, rfl, Nat.le_refl _, S3, World.ownsRow_nil _ _ _ _⟩, B3, Nat.le_of_eq z3.symm⟩
    (fun x => { tmps := #[.string s, undef, .pointer (some ⟨r, 0, none⟩), .pointer (some ⟨r + 1, 0, none⟩), .int .i64 0, .pointer (some ⟨B, 0, none⟩), .pointer (some ⟨B + 1, 0, none⟩), .string x.1, undef, undef, .string s, .int .i64 0, .int .i64 0, .bool false, undef, undef, undef, undef, undef, undef, .string s, .func (.func 98) #[] #[.pointer (some ⟨B + 1 + 1, 0, none⟩)], .string x.1, undef, undef, undef, undef, undef, undef, undef, undef, undef, undef, undef, undef, undef, undef, undef, undef, undef, undef, undef, undef, undef, undef, undef, undef, undef, undef, undef, undef, undef, undef, undef, undef, undef, undef, undef, undef, undef, undef, undef, undef, undef, undef, undef, undef], defers := [] }) ?assign ?body ?done ?stop
  case assign =>
    intro l x W K hK
    gi_wp2
    first | exact hK | simpa using hK
  case body =>
    rintro l pre x W ⟨⟨t, ps, tm, no, v, hp, hpl, hS, hrow⟩, hB, hsz⟩ hlen
    rw [z3]
    have hul : pre.length < 1048576 := by omega
    have hF := fun w => fieldOfC x.1 w x.2
    have hPx : ∀ c, pStep pI (some (t, ps, tm, no)) x.1.data.toList = c → Hid (pAll pI (ds (pre ++ [x])) = c) := fun c h => by show _ = _; rw [ds_snoc, pAll_snoc, hp]; exact h
    have e1 := p_tree (t := t) (ps := ps) (tm := tm) (no := no) (x := x.1.data.toList)
    have e2 := p_parent (t := t) (ps := ps) (tm := tm) (no := no) (x := x.1.data.toList)
    have e3 := p_time (t := t) (ps := ps) (tm := tm) (no := no) (x := x.1.data.toList)
    have e4 := p_note (t := t) (ps := ps) (tm := tm) (no := no) (x := x.1.data.toList)
    have e5 := p_other (t := t) (ps := ps) (tm := tm) (no := no) (x := x.1.data.toList)
    have sY : (mkB (aft (trimL x.1.data.toList))).size ≤ 1048576 := by
      have t0 := trim_len x.1.data.toList
      have t1 := aft_len (trimL x.1.data.toList)
      have t4 := x.2
      rw [← size_eq] at t4
      rw [mkB_size]; omega
    obtain ⟨X1, hX1⟩ : ∃ X, mkB (bef (trimL x.1.data.toList)) = X := ⟨_, rfl⟩
    obtain ⟨Y1, hY1⟩ : ∃ X, mkB (aft (trimL x.1.data.toList)) = X := ⟨_, rfl⟩
    simp only [hX1, hY1] at hF e1 e2 e3 e4 e5 sY
    obtain ⟨V, hV⟩ : ∃ V, pStep pI (some (t, ps, tm, no)) x.1.data.toList = V := ⟨_, rfl⟩
    rw [hV] at hPx e1 e2 e3 e4 e5
    clear hX1 hY1 hV
    have hpl1 : ps.length ≤ (pre ++ [x]).length := by simp; omega
    gi_wp2_with fail
    refine ⟨trivial, ?_⟩
    refine (CallsIn.inRound l (callsIn_wide.2 (hF _))).mono ?_
    rintro e W2 ⟨rfl, hb2⟩
    have S2 := hS.below hb2
    have row2 := rowKept hrow hb2
    have hrW : r ≤ W.heap.size := by omega
    clear hF
    have c0 : W2.cell? ⟨B, 0, none⟩ = some (.string t) := by rw [Lib.cell_of_heap S2.com]; rfl
    have hC := fun w => cloneS Y1 w (by omega)
    rcases five (p1 := X1 = wTree) (p2 := X1 = wPar) (p3 := X1 = wTime) (p4 := X1 = wNote) with h | ⟨h1, h⟩ | ⟨h1, h2, h⟩ | ⟨h1, h2, h3, h⟩ | ⟨h1, h2, h3, h4⟩
    · have HV := hPx _ (e1 h)
      have k1 : (X1.toList == [116, 114, 101, 101]) = true := k_t (w := wTree) h
      clear h
      clear e1 e2 e3 e4 e5 hPx
      gi_wp2_with fail
      refine ⟨trivial, ?_⟩
      refine (CallsIn.inRound l (callsIn_wide.2 (hC _))).mono ?_
      rintro e W4 ⟨rfl, hb4⟩
      have S4 := S2.below hb4
      have row4 := rowKept row2 hb4
      have B24 : Below W.heap.size W W4 := hb2.trans (hb4.mono hb2.size)
      obtain ⟨kO, kB, sE, rE, bE, zE⟩ := set_end (o := 0) (u := .string Y1) hrB B24 S4 row4 hB hsz hrW rfl
      have g0 : W4.cell? ⟨B, 0, none⟩ = some (.string t) := by rw [Lib.cell_of_heap S4.com]; rfl
      have g1 : W4.frozen? ⟨B, 0, none⟩ = false := Lib.frozen_of_heap S4.com 0
      have g2 : W4.cell? ⟨B + 1, 0, none⟩ = some .nilIface := by rw [Lib.cell_of_heap S4.err]; rfl
      have HE : ∀ a, Hid (ownPostG (B + 3) (KeepB (B + 1 + 1)) (fun pre W => IV r B pre W ∧ Below r w W ∧ B + 3 ≤ W.heap.size) (fun c pre W => IX r c pre W ∧ Below r w W) (pre ++ [x]) W .normal a (W4.setCell ⟨B, 0, none⟩ (.string Y1))) := fun _ => ⟨kO.from _, kB, ⟨_, _, _, _, _, HV.out, hpl1, sE, rE⟩, bE, zE⟩
      clear hC kO kB sE rE bE zE S4 row4 S2 row2 hS hrow c0 hB HV B24 hb4 hb2
      gi_wp2
      exact (HE _).out
    · have HV := hPx _ (e2 h)
      have k1 : (X1.toList == [116, 114, 101, 101]) = false := k_f (w := wTree) h1
      have k2 : (X1.toList == [112, 97, 114, 101, 110, 116]) = true := k_t (w := wPar) h
      clear h1 h
      clear e1 e2 e3 e4 e5 hPx
      have hpl2 : (ps ++ [Y1]).length ≤ (pre ++ [x]).length := by simp; omega
      have c1 : W2.cell? ⟨B, 1, none⟩ = some v := by rw [Lib.cell_of_heap S2.com]; rfl
      gi_wp2
      refine region_round (S := fun _ => True) (by kernel_rfl) (by kernel_rfl) trivial (fun _ => ?_)
      refine takeD (i := 0) (d := 36) (oi := _) (v := ?_) (listed' := #[true, false, false, false, false, false, false, false]) rfl (by kernel_rfl) (by kernel_rfl) (by kernel_rfl) (fun _ _ _ h => h) (Or.inl ⟨by rfl, ?_⟩) trivial (by kernel_rfl) (by kernel_rfl) ?_
      rotate_left
      · intro w hSw
        try dsimp only at hSw
        first
          | (go_simp; done)
          | (go_simp; with_reducible rfl)
      simp only [Act.put, List.setIfInBounds_toArray, List.set_cons_zero, List.set_cons_succ]
      refine takeD (i := 2) (d := 38) (oi := _) (v := ?_) (listed' := #[true, false, true, false, false, false, false, false]) rfl (by kernel_rfl) (by kernel_rfl) (by kernel_rfl) (fun _ _ _ h => h) (Or.inl ⟨by rfl, ?_⟩) trivial (by kernel_rfl) (by kernel_rfl) ?_
      rotate_left
      · intro w hSw
        try dsimp only at hSw
        first
          | (go_simp; done)
          | (go_simp; with_reducible rfl)
      simp only [Act.put, List.setIfInBounds_toArray, List.set_cons_zero, List.set_cons_succ]
      refine wpAnyH_ready (rs := [1, 3]) (by kernel_rfl) (by simp) ?_
      refine AllReadyH.cons (o := _) rfl (fun K hK => ?_) (AllReadyH.cons (o := _) rfl (fun K hK => ?_) AllReadyH.nil)
      · go_simp
        refine hK.out _ _ trivial (fun _ => ?_)
        clear hK K
        simp only [List.setIfInBounds_toArray, List.set_cons_zero, List.set_cons_succ]
        refine wpAnyH_ready (rs := [3]) (by kernel_rfl) (by simp) ?_
        refine AllReadyH.cons (o := _) rfl (fun K hK => ?_) AllReadyH.nil
        go_simp
        refine (hC _).mono ?_
        rintro e u6 ⟨rfl, k6⟩
        have K6 : Below W2.heap.size W2 u6 := (below_drew (Below.refl _ W2)).trans k6
        have P6 : u6.cell? ⟨B, 1, none⟩ = some v := by rw [Lib.cell_of_heap (S2.below K6).com]; rfl
        refine hK.out _ _ trivial (fun _ => ?_)
        clear hK K
        simp only [List.setIfInBounds_toArray, List.set_cons_zero, List.set_cons_succ]
        refine wpAnyH_ready (rs := [4]) (by kernel_rfl) (by simp) ?_
        refine AllReadyH.cons (o := _) rfl (fun K hK => ?_) AllReadyH.nil
        go_simp
        refine hK.out _ _ trivial (fun _ => ?_)
        clear hK K
        simp only [List.setIfInBounds_toArray, List.set_cons_zero, List.set_cons_succ]
        refine wpAnyH_ready (rs := [5]) (by kernel_rfl) (by simp) ?_
        refine AllReadyH.cons (o := _) rfl (fun K hK => ?_) AllReadyH.nil
        have S6 := S2.below K6
        have row6 := rowKept row2 K6
        refine stepH_append_own rfl (.tmp 37) (.tmp 40) 22 rfl (B + 3) 9 i0 (.string ByteArray.empty) 1 16 Tryz.underlying22 hi hz0 hz1 hz2 rfl (by decide) v _ _ rfl (row6.alloc _) ⟨u6.heap.size, 0, none⟩ 1 1 [.string Y1] rfl rfl (one_new _ _ _) (by simp [Value.oneCell']) (by unfold maxLen; omega) (by omega) (by have := K6.size; have := hb2.size; simp; omega) ?_
        intro v' w3 hown' hgrow
        obtain ⟨g', cap', rfl⟩ := ownsRow_succ hown'
        obtain ⟨⟨d3, f3⟩, kO, kB, sE, rE, bE, zE⟩ := app_end hrB (hb2.trans (K6.mono hb2.size)) S6 row6 hB hsz hrW hown' hgrow
        have d4 := Lib.cell_of_heap sE.err 0
        refine hK.out _ _ trivial (fun _ => ?_)
        clear hK K
        simp only [List.setIfInBounds_toArray, List.set_cons_zero, List.set_cons_succ]
        refine takeD (i := 6) (d := 42) (oi := _) (v := ?_) (listed' := #[true, true, true, true, true, true, true, false]) rfl (by kernel_rfl) (by kernel_rfl) (by kernel_rfl) (fun _ _ _ h => h) (Or.inl ⟨by rfl, ?_⟩) trivial (by kernel_rfl) (by kernel_rfl) ?_
        rotate_left
        · intro w hSw
          try dsimp only at hSw
          first
            | (go_simp; done)
            | (go_simp; with_reducible rfl)
        simp only [Act.put, List.setIfInBounds_toArray]
        refine wpAnyH_ready (rs := [7]) (by kernel_rfl) (by simp) ?_
        refine AllReadyH.cons (o := _) rfl (fun K hK => ?_) AllReadyH.nil
        go_simp
        refine hK.out _ _ trivial (fun _ => ?_)
        clear hK K
        simp only [List.setIfInBounds_toArray, List.set_cons_zero, List.set_cons_succ]
        refine wpAnyH_done (by kernel_rfl) ?_ _
        refine ⟨by simp, ?_⟩
        have g2 : (w3.setCell ⟨B, 1, none⟩ (.slice (some ⟨g', 0, none⟩) (ps.length + 1) cap')).cell? ⟨B + 1, 0, none⟩ = some .nilIface := by rw [Lib.cell_of_heap sE.err]; rfl
        have HE : ∀ a, Hid (ownPostG (B + 3) (KeepB (B + 1 + 1)) (fun pre W => IV r B pre W ∧ Below r w W ∧ B + 3 ≤ W.heap.size) (fun c pre W => IX r c pre W ∧ Below r w W) (pre ++ [x]) W .normal a (w3.setCell ⟨B, 1, none⟩ (.slice (some ⟨g', 0, none⟩) (ps.length + 1) cap'))) := fun _ => ⟨kO.from _, kB, ⟨_, _, _, _, _, HV.out, hpl2, sE, rE⟩, bE, zE⟩
        obtain ⟨W9, hW9⟩ : ∃ W9, w3.setCell ⟨B, 1, none⟩ (.slice (some ⟨g', 0, none⟩) (ps.length + 1) cap') = W9 := ⟨_, rfl⟩
        rw [hW9] at g2 HE ⊢
        clear hW9 kO kB sE rE bE zE d3 f3 d4 hown' hgrow
        gi_wp2
        exact (HE _).out
      · go_simp
        refine (hC _).mono ?_
        rintro e u6 ⟨rfl, k6⟩
        have K6 : Below W2.heap.size W2 u6 := (below_drew (Below.refl _ W2)).trans k6
        have P6 : u6.cell? ⟨B, 1, none⟩ = some v := by rw [Lib.cell_of_heap (S2.below K6).com]; rfl
        refine hK.out _ _ trivial (fun _ => ?_)
        clear hK K
        simp only [List.setIfInBounds_toArray, List.set_cons_zero, List.set_cons_succ]
        refine wpAnyH_ready (rs := [1, 4]) (by kernel_rfl) (by simp) ?_
        refine AllReadyH.cons (o := _) rfl (fun K hK => ?_) (AllReadyH.cons (o := _) rfl (fun K hK => ?_) AllReadyH.nil)
        · go_simp
          refine hK.out _ _ trivial (fun _ => ?_)
          clear hK K
          simp only [List.setIfInBounds_toArray, List.set_cons_zero, List.set_cons_succ]
          refine wpAnyH_ready (rs := [4]) (by kernel_rfl) (by simp) ?_
          refine AllReadyH.cons (o := _) rfl (fun K hK => ?_) AllReadyH.nil
          go_simp
          refine hK.out _ _ trivial (fun _ => ?_)
          clear hK K
          simp only [List.setIfInBounds_toArray, List.set_cons_zero, List.set_cons_succ]
          refine wpAnyH_ready (rs := [5]) (by kernel_rfl) (by simp) ?_
          refine AllReadyH.cons (o := _) rfl (fun K hK => ?_) AllReadyH.nil
          have S6 := S2.below K6
          have row6 := rowKept row2 K6
          refine stepH_append_own rfl (.tmp 37) (.tmp 40) 22 rfl (B + 3) 9 i0 (.string ByteArray.empty) 1 16 Tryz.underlying22 hi hz0 hz1 hz2 rfl (by decide) v _ _ rfl (row6.alloc _) ⟨u6.heap.size, 0, none⟩ 1 1 [.string Y1] rfl rfl (one_new _ _ _) (by simp [Value.oneCell']) (by unfold maxLen; omega) (by omega) (by have := K6.size; have := hb2.size; simp; omega) ?_
          intro v' w3 hown' hgrow
          obtain ⟨g', cap', rfl⟩ := ownsRow_succ hown'
          obtain ⟨⟨d3, f3⟩, kO, kB, sE, rE, bE, zE⟩ := app_end hrB (hb2.trans (K6.mono hb2.size)) S6 row6 hB hsz hrW hown' hgrow
          have d4 := Lib.cell_of_heap sE.err 0
          refine hK.out _ _ trivial (fun _ => ?_)
          clear hK K
          simp only [List.setIfInBounds_toArray, List.set_cons_zero, List.set_cons_succ]
          refine takeD (i := 6) (d := 42) (oi := _) (v := ?_) (listed' := #[true, true, true, true, true, true, true, false]) rfl (by kernel_rfl) (by kernel_rfl) (by kernel_rfl) (fun _ _ _ h => h) (Or.inl ⟨by rfl, ?_⟩) trivial (by kernel_rfl) (by kernel_rfl) ?_
          rotate_left
          · intro w hSw
            try dsimp only at hSw
            first
              | (go_simp; done)
              | (go_simp; with_reducible rfl)
          simp only [Act.put, List.setIfInBounds_toArray]
          refine wpAnyH_ready (rs := [7]) (by kernel_rfl) (by simp) ?_
          refine AllReadyH.cons (o := _) rfl (fun K hK => ?_) AllReadyH.nil
          go_simp
          refine hK.out _ _ trivial (fun _ => ?_)
          clear hK K
          simp only [List.setIfInBounds_toArray, List.set_cons_zero, List.set_cons_succ]
          refine wpAnyH_done (by kernel_rfl) ?_ _
          refine ⟨by simp, ?_⟩
          have g2 : (w3.setCell ⟨B, 1, none⟩ (.slice (some ⟨g', 0, none⟩) (ps.length + 1) cap')).cell? ⟨B + 1, 0, none⟩ = some .nilIface := by rw [Lib.cell_of_heap sE.err]; rfl
          have HE : ∀ a, Hid (ownPostG (B + 3) (KeepB (B + 1 + 1)) (fun pre W => IV r B pre W ∧ Below r w W ∧ B + 3 ≤ W.heap.size) (fun c pre W => IX r c pre W ∧ Below r w W) (pre ++ [x]) W .normal a (w3.setCell ⟨B, 1, none⟩ (.slice (some ⟨g', 0, none⟩) (ps.length + 1) cap'))) := fun _ => ⟨kO.from _, kB, ⟨_, _, _, _, _, HV.out, hpl2, sE, rE⟩, bE, zE⟩
          obtain ⟨W9, hW9⟩ : ∃ W9, w3.setCell ⟨B, 1, none⟩ (.slice (some ⟨g', 0, none⟩) (ps.length + 1) cap') = W9 := ⟨_, rfl⟩
          rw [hW9] at g2 HE ⊢
          clear hW9 kO kB sE rE bE zE d3 f3 d4 hown' hgrow
          gi_wp2
          exact (HE _).out
        · go_simp
          have P7 := keep3 (allocBelow u6 (.cells #[.string Y1] 9)) (by have := K6.size; have := hb2.size; omega) P6
          refine hK.out _ _ trivial (fun _ => ?_)
          clear hK K
          simp only [List.setIfInBounds_toArray, List.set_cons_zero, List.set_cons_succ]
          refine wpAnyH_ready (rs := [1]) (by kernel_rfl) (by simp) ?_
          refine AllReadyH.cons (o := _) rfl (fun K hK => ?_) AllReadyH.nil
          go_simp
          refine hK.out _ _ trivial (fun _ => ?_)
          clear hK K
          simp only [List.setIfInBounds_toArray, List.set_cons_zero, List.set_cons_succ]
          refine wpAnyH_ready (rs := [5]) (by kernel_rfl) (by simp) ?_
          refine AllReadyH.cons (o := _) rfl (fun K hK => ?_) AllReadyH.nil
          have S6 := S2.below K6
          have row6 := rowKept row2 K6
          refine stepH_append_own rfl (.tmp 37) (.tmp 40) 22 rfl (B + 3) 9 i0 (.string ByteArray.empty) 1 16 Tryz.underlying22 hi hz0 hz1 hz2 rfl (by decide) v _ _ rfl (row6.alloc _) ⟨u6.heap.size, 0, none⟩ 1 1 [.string Y1] rfl rfl (one_new _ _ _) (by simp [Value.oneCell']) (by unfold maxLen; omega) (by omega) (by have := K6.size; have := hb2.size; simp; omega) ?_
          intro v' w3 hown' hgrow
          obtain ⟨g', cap', rfl⟩ := ownsRow_succ hown'
          obtain ⟨⟨d3, f3⟩, kO, kB, sE, rE, bE, zE⟩ := app_end hrB (hb2.trans (K6.mono hb2.size)) S6 row6 hB hsz hrW hown' hgrow
          have d4 := Lib.cell_of_heap sE.err 0
          refine hK.out _ _ trivial (fun _ => ?_)
          clear hK K
          simp only [List.setIfInBounds_toArray, List.set_cons_zero, List.set_cons_succ]
          refine takeD (i := 6) (d := 42) (oi := _) (v := ?_) (listed' := #[true, true, true, true, true, true, true, false]) rfl (by kernel_rfl) (by kernel_rfl) (by kernel_rfl) (fun _ _ _ h => h) (Or.inl ⟨by rfl, ?_⟩) trivial (by kernel_rfl) (by kernel_rfl) ?_
          rotate_left
          · intro w hSw
            try dsimp only at hSw
            first
              | (go_simp; done)
              | (go_simp; with_reducible rfl)
          simp only [Act.put, List.setIfInBounds_toArray]
          refine wpAnyH_ready (rs := [7]) (by kernel_rfl) (by simp) ?_
          refine AllReadyH.cons (o := _) rfl (fun K hK => ?_) AllReadyH.nil
          go_simp
          refine hK.out _ _ trivial (fun _ => ?_)
          clear hK K
          simp only [List.setIfInBounds_toArray, List.set_cons_zero, List.set_cons_succ]
          refine wpAnyH_done (by kernel_rfl) ?_ _
          refine ⟨by simp, ?_⟩
          have g2 : (w3.setCell ⟨B, 1, none⟩ (.slice (some ⟨g', 0, none⟩) (ps.length + 1) cap')).cell? ⟨B + 1, 0, none⟩ = some .nilIface := by rw [Lib.cell_of_heap sE.err]; rfl
          have HE : ∀ a, Hid (ownPostG (B + 3) (KeepB (B + 1 + 1)) (fun pre W => IV r B pre W ∧ Below r w W ∧ B + 3 ≤ W.heap.size) (fun c pre W => IX r c pre W ∧ Below r w W) (pre ++ [x]) W .normal a (w3.setCell ⟨B, 1, none⟩ (.slice (some ⟨g', 0, none⟩) (ps.length + 1) cap'))) := fun _ => ⟨kO.from _, kB, ⟨_, _, _, _, _, HV.out, hpl2, sE, rE⟩, bE, zE⟩
          obtain ⟨W9, hW9⟩ : ∃ W9, w3.setCell ⟨B, 1, none⟩ (.slice (some ⟨g', 0, none⟩) (ps.length + 1) cap') = W9 := ⟨_, rfl⟩
          rw [hW9] at g2 HE ⊢
          clear hW9 kO kB sE rE bE zE d3 f3 d4 hown' hgrow
          gi_wp2
          exact (HE _).out
    · have HV := hPx _ (e3 h)
      have k1 : (X1.toList == [116, 114, 101, 101]) = false := k_f (w := wTree) h1
      have k2 : (X1.toList == [112, 97, 114, 101, 110, 116]) = false := k_f (w := wPar) h2
      have k3 : (X1.toList == [116, 105, 109, 101]) = true := k_t (w := wTime) h
      clear h1 h2 h
      clear e1 e2 e3 e4 e5 hPx hC
      have hPI := parseIntC Y1 W2 sY (((hP.below (Below.of_eq hr hB) hP1 hP2)).below hb2 (by omega) (by omega))
      gi_wp2_with fail
      refine ⟨trivial, ?_⟩
      refine (CallsIn.inRound l (callsIn_wide.2 hPI)).mono ?_
      rintro e W4 ⟨hPN, hb4⟩
      have S4 := S2.below hb4
      have row4 := rowKept row2 hb4
      have B24 : Below W.heap.size W W4 := hb2.trans (hb4.mono hb2.size)
      have g0 : W4.cell? ⟨B, 2, none⟩ = some (.int .i64 tm) := by rw [Lib.cell_of_heap S4.com]; rfl
      have g1 : W4.frozen? ⟨B, 2, none⟩ = false := Lib.frozen_of_heap S4.com 2
      have g2 : W4.cell? ⟨B + 1, 0, none⟩ = some .nilIface := by rw [Lib.cell_of_heap S4.err]; rfl
      have g3 : W4.frozen? ⟨B + 1, 0, none⟩ = false := Lib.frozen_of_heap S4.err 0
      clear hPI
      rcases hPN with ⟨n, hn, rfl⟩ | ⟨hn, n, TT, uu, rfl⟩
      · obtain ⟨kO, kB, sE, rE, bE, zE⟩ := set_end (o := 2) (u := .int .i64 n) hrB B24 S4 row4 hB hsz hrW rfl
        rw [hn] at HV
        have HE : ∀ a, Hid (ownPostG (B + 3) (KeepB (B + 1 + 1)) (fun pre W => IV r B pre W ∧ Below r w W ∧ B + 3 ≤ W.heap.size) (fun c pre W => IX r c pre W ∧ Below r w W) (pre ++ [x]) W .normal a ((W4.setCell ⟨B, 2, none⟩ (.int .i64 n)).setCell ⟨B + 1, 0, none⟩ .nilIface)) := fun _ => ⟨(kO.trans (KeepsOthers.setCell _ _ _)).from _, (Below.heap_setCell _ _ _ _ (by simp)).trans kB, ⟨_, _, _, _, _, HV.out, hpl1, sE.setErr hrB, ownsRow_setCell_below rE (a := ⟨B + 1, 0, none⟩) (show B + 1 < B + 3 by omega) _⟩, bE.setCell (p := ⟨B + 1, 0, none⟩) (show r ≤ B + 1 by omega) _, by simpa using zE⟩
        clear kO kB sE rE bE zE S4 row4 S2 row2 hS hrow c0 hB HV B24 hb4 hb2 hn
        gi_wp2
        exact (HE _).out
      · rw [hn] at HV
        obtain ⟨U, hU⟩ : ∃ U, (W4.setCell ⟨B, 2, none⟩ (.int .i64 n)).setCell ⟨B + 1, 0, none⟩ (.iface TT uu) = U := ⟨_, rfl⟩
        have u0 : U.heap[r]? = some (.cells #[.string ⟨#[]⟩, .slice none 0 0, .int .i64 0, .string ⟨#[]⟩] 24 (0, 0)) := by rw [← hU]; exact blk_set (blk_set S4.res (by omega)) (by omega)
        have u1 : U.heap[r + 1]? = some (.cells #[.nilIface] 58 (0, 0)) := by rw [← hU]; exact blk_set (blk_set S4.rer (by omega)) (by omega)
        have u2 : U.heap[B + 1]? = some (.cells #[.iface TT uu] 58 (0, 0)) := by rw [← hU]; exact blk_put (blk_set S4.err (by omega))
        have u3 : U.cell? ⟨B + 1, 0, none⟩ = some (.iface TT uu) := by rw [Lib.cell_of_heap u2]; rfl
        have uK : KeepsOthers W U := by rw [← hU]; exact ((keeps_below B24).trans (KeepsOthers.setCell _ _ _)).trans (KeepsOthers.setCell _ _ _)
        have uB : Below r w U := by rw [← hU]; exact ((hB.trans (B24.mono hrW)).setCell (p := ⟨B, 2, none⟩) (show r ≤ B by omega) _).setCell (p := ⟨B + 1, 0, none⟩) (show r ≤ B + 1 by omega) _
        have p0 : U.cell? ⟨r, 0, none⟩ = some (.string ⟨#[]⟩) := by rw [Lib.cell_of_heap u0]; rfl
        have p1 : U.cell? ⟨r, 1, none⟩ = some (.slice none 0 0) := by rw [Lib.cell_of_heap u0]; rfl
        have p2 : U.cell? ⟨r, 2, none⟩ = some (.int .i64 0) := by rw [Lib.cell_of_heap u0]; rfl
        have p3 : U.cell? ⟨r, 3, none⟩ = some (.string ⟨#[]⟩) := by rw [Lib.cell_of_heap u0]; rfl
        have p4 : U.cell? ⟨r + 1, 0, none⟩ = some .nilIface := by rw [Lib.cell_of_heap u1]; rfl
        have o0 : U.frozen? ⟨r, 0, none⟩ = false := Lib.frozen_of_heap u0 0
        have o1 : U.frozen? ⟨r, 1, none⟩ = false := Lib.frozen_of_heap u0 1
        have o2 : U.frozen? ⟨r, 2, none⟩ = false := Lib.frozen_of_heap u0 2
        have o3 : U.frozen? ⟨r, 3, none⟩ = false := Lib.frozen_of_heap u0 3
        have o4 : U.frozen? ⟨r + 1, 0, none⟩ = false := Lib.frozen_of_heap u1 0
        have HE : ∀ a, Hid (ownPostG (B + 3) (KeepB (B + 1 + 1)) (fun pre W => IV r B pre W ∧ Below r w W ∧ B + 3 ≤ W.heap.size) (fun c pre W => IX r c pre W ∧ Below r w W) (pre ++ [x]) W .ret a (((((U.drew.setCell ⟨r, 0, none⟩ (.string ⟨#[]⟩)).setCell ⟨r, 1, none⟩ (.slice none 0 0)).setCell ⟨r, 2, none⟩ (.int .i64 0)).setCell ⟨r, 3, none⟩ (.string ⟨#[]⟩)).setCell ⟨r + 1, 0, none⟩ (.iface 100 (.agg #[.iface TT uu])))) := fun _ => ret_end (U := U.drew) ⟨uK.size, uK.same⟩ u0 u1 uB.drew HV.out
        have s4 : (((((U.drew.setCell ⟨r, 0, none⟩ (.string ⟨#[]⟩)).setCell ⟨r, 1, none⟩ (.slice none 0 0)).setCell ⟨r, 2, none⟩ (.int .i64 0)).setCell ⟨r, 3, none⟩ (.string ⟨#[]⟩))).heap[B + 1]? = some (.cells #[.iface TT uu] 58 (0, 0)) := blk_set (blk_set (blk_set (blk_set u2 (by omega)) (by omega)) (by omega)) (by omega)
        have t4 : (((((U.drew.setCell ⟨r, 0, none⟩ (.string ⟨#[]⟩)).setCell ⟨r, 1, none⟩ (.slice none 0 0)).setCell ⟨r, 2, none⟩ (.int .i64 0)).setCell ⟨r, 3, none⟩ (.string ⟨#[]⟩))).cell? ⟨B + 1, 0, none⟩ = some (.iface TT uu) := by rw [Lib.cell_of_heap s4]; rfl
        have t5 : ((((((U.drew.setCell ⟨r, 0, none⟩ (.string ⟨#[]⟩)).setCell ⟨r, 1, none⟩ (.slice none 0 0)).setCell ⟨r, 2, none⟩ (.int .i64 0)).setCell ⟨r, 3, none⟩ (.string ⟨#[]⟩))).setCell ⟨r + 1, 0, none⟩ (.iface 100 (.agg #[.iface TT uu]))).cell? ⟨B + 1, 0, none⟩ = some (.iface TT uu) := by rw [Lib.cell_of_heap (blk_set s4 (by omega))]; rfl
        have T4 : Hid _ := t4
        have T5 : Hid _ := t5
        clear S4 row4 S2 row2 hS hrow c0 hB HV B24 hb4 hb2 hn u0 u1 u2 uK uB s4 t4 t5
        gi_wp2
        refine region_round (S := fun u => u.cell? ⟨B + 1, 0, none⟩ = some (.iface TT uu)) (by kernel_rfl) (by kernel_rfl) u3 (fun hHeld => ?_)
        refine takeD (i := 0) (d := 58) (oi := _) (v := ?_) (listed' := #[true, false, false, false, false, false]) rfl (by kernel_rfl) (by kernel_rfl) (by kernel_rfl) (fun _ _ _ h => h) (Or.inl ⟨by rfl, ?_⟩) hHeld (by kernel_rfl) (by kernel_rfl) ?_
        rotate_left
        · intro w hSw
          try dsimp only at hSw
          first
            | (go_simp; done)
            | (go_simp; with_reducible rfl)
        simp only [Act.put, List.setIfInBounds_toArray, List.set_cons_zero, List.set_cons_succ]
        refine takeD (i := 1) (d := 59) (oi := _) (v := ?_) (listed' := #[true, true, false, false, false, false]) rfl (by kernel_rfl) (by kernel_rfl) (by kernel_rfl) (fun _ _ _ h => h) (Or.inl ⟨by rfl, ?_⟩) hHeld (by kernel_rfl) (by kernel_rfl) ?_
        rotate_left
        · intro w hSw
          try dsimp only at hSw
          first
            | (go_simp; done)
            | (go_simp; with_reducible rfl)
        simp only [Act.put, List.setIfInBounds_toArray, List.set_cons_zero, List.set_cons_succ]
        refine takeD (i := 2) (d := 60) (oi := _) (v := ?_) (listed' := #[true, true, true, false, false, false]) rfl (by kernel_rfl) (by kernel_rfl) (by kernel_rfl) (fun _ _ _ h => h) (Or.inl ⟨by rfl, ?_⟩) hHeld (by kernel_rfl) (by kernel_rfl) ?_
        rotate_left
        · intro w hSw
          try dsimp only at hSw
          first
            | (go_simp; done)
            | (go_simp; with_reducible rfl)
        simp only [Act.put, List.setIfInBounds_toArray, List.set_cons_zero, List.set_cons_succ]
        refine takeD (i := 3) (d := 61) (oi := _) (v := ?_) (listed' := #[true, true, true, true, false, false]) rfl (by kernel_rfl) (by kernel_rfl) (by kernel_rfl) (fun _ _ _ h => h) (Or.inl ⟨by rfl, ?_⟩) hHeld (by kernel_rfl) (by kernel_rfl) ?_
        rotate_left
        · intro w hSw
          try dsimp only at hSw
          first
            | (go_simp; done)
            | (go_simp; with_reducible rfl)
        simp only [Act.put, List.setIfInBounds_toArray, List.set_cons_zero, List.set_cons_succ]
        refine wpAnyH_ready (rs := [4]) (by kernel_rfl) (by simp) ?_
        refine AllReadyH.cons (o := _) rfl (fun K hK => ?_) AllReadyH.nil
        go_simp
        refine hK.out _ _ T4.out (fun _ => ?_)
        clear hK K
        simp only [List.setIfInBounds_toArray, List.set_cons_zero, List.set_cons_succ]
        refine wpAnyH_ready (rs := [5]) (by kernel_rfl) (by simp) ?_
        refine AllReadyH.cons (o := _) rfl (fun K hK => ?_) AllReadyH.nil
        go_simp
        refine hK.out _ _ T5.out (fun _ => ?_)
        clear hK K
        simp only [List.setIfInBounds_toArray, List.set_cons_zero, List.set_cons_succ]
        refine wpAnyH_done (by kernel_rfl) ?_ _
        refine ⟨by simp, ?_⟩
        gi_wp2
        exact (HE _).out
    · have HV := hPx _ (e4 h)
      have k1 : (X1.toList == [116, 114, 101, 101]) = false := k_f (w := wTree) h1
      have k2 : (X1.toList == [112, 97, 114, 101, 110, 116]) = false := k_f (w := wPar) h2
      have k3 : (X1.toList == [116, 105, 109, 101]) = false := k_f (w := wTime) h3
      have k4 : (X1.toList == [110, 111, 116, 101]) = true := k_t (w := wNote) h
      clear h1 h2 h3 h
      clear e1 e2 e3 e4 e5 hPx
      gi_wp2_with fail
      refine ⟨trivial, ?_⟩
      refine (CallsIn.inRound l (callsIn_wide.2 (hC _))).mono ?_
      rintro e W4 ⟨rfl, hb4⟩
      have S4 := S2.below hb4
      have row4 := rowKept row2 hb4
      have B24 : Below W.heap.size W W4 := hb2.trans (hb4.mono hb2.size)
      obtain ⟨kO, kB, sE, rE, bE, zE⟩ := set_end (o := 3) (u := .string Y1) hrB B24 S4 row4 hB hsz hrW rfl
      have g0 : W4.cell? ⟨B, 3, none⟩ = some (.string no) := by rw [Lib.cell_of_heap S4.com]; rfl
      have g1 : W4.frozen? ⟨B, 3, none⟩ = false := Lib.frozen_of_heap S4.com 3
      have g2 : W4.cell? ⟨B + 1, 0, none⟩ = some .nilIface := by rw [Lib.cell_of_heap S4.err]; rfl
      have HE : ∀ a, Hid (ownPostG (B + 3) (KeepB (B + 1 + 1)) (fun pre W => IV r B pre W ∧ Below r w W ∧ B + 3 ≤ W.heap.size) (fun c pre W => IX r c pre W ∧ Below r w W) (pre ++ [x]) W .normal a (W4.setCell ⟨B, 3, none⟩ (.string Y1))) := fun _ => ⟨kO.from _, kB, ⟨_, _, _, _, _, HV.out, hpl1, sE, rE⟩, bE, zE⟩
      clear hC kO kB sE rE bE zE S4 row4 S2 row2 hS hrow c0 hB HV B24 hb4 hb2
      gi_wp2
      exact (HE _).out
    · have HV := hPx _ (e5 h1 h2 h3 h4)
      have k1 : (X1.toList == [116, 114, 101, 101]) = false := k_f (w := wTree) h1
      have k2 : (X1.toList == [112, 97, 114, 101, 110, 116]) = false := k_f (w := wPar) h2
      have k3 : (X1.toList == [116, 105, 109, 101]) = false := k_f (w := wTime) h3
      have k4 : (X1.toList == [110, 111, 116, 101]) = false := k_f (w := wNote) h4
      clear h1 h2 h3 h4
      clear e1 e2 e3 e4 e5 hPx hC
      have g2 : W2.cell? ⟨B + 1, 0, none⟩ = some .nilIface := by rw [Lib.cell_of_heap S2.err]; rfl
      have HE : ∀ a, Hid (ownPostG (B + 3) (KeepB (B + 1 + 1)) (fun pre W => IV r B pre W ∧ Below r w W ∧ B + 3 ≤ W.heap.size) (fun c pre W => IX r c pre W ∧ Below r w W) (pre ++ [x]) W .normal a W2) := fun _ => ⟨(keeps_below hb2).from _, hb2.block _ (by omega), ⟨_, _, _, _, _, HV.out, hpl1, S2, row2⟩, hB.trans (hb2.mono hrW), Nat.le_trans hsz hb2.size⟩
      clear S2 row2 hS hrow c0 hB HV hb2
      gi_wp2
      exact (HE _).out
  case done =>
    rintro D ys W hD hys ⟨⟨t, ps, tm, no, v, hp, hpl, hS, hrow⟩, hB, hsz⟩ hK
    have hE : dcI pI s = if cmF t ps tm no = 0 ∧ cmL t ps tm no = s.data.toList then some (t, ps, tm, no) else none := dcI_end hys hp
    have hyl : ys.length = (linesOf s).length := by have := congrArg List.length hys; simpa [unS] using this
    have hpn : ps.length ≤ 1048576 := by omega
    have hps := pSizes ys hp
    obtain ⟨la, lc, rfl, sP, -⟩ := SS_of_row hrow rfl (fun k hk => Nat.le_trans (hps k hk) (by decide))
    have hcap := rowCap hrow
    have hgl : 6 < W.heap.size := by have := hB.size; omega
    have hol : 0 < W.heap.size := by have := hB.size; omega
    have hWt := wantTextC t la lc ps tm no s W.drew (sP.below (below_drew (Below.refl _ _))) hcap hpn (hTa.below (Below.of_eq hr hB).drew hgB) hgl (ho.below (Below.of_eq hr hB).drew hoB) hol
    have c0 : W.cell? ⟨B, 0, none⟩ = some (.string t) := by rw [Lib.cell_of_heap hS.com]; rfl
    have c1 : W.cell? ⟨B, 1, none⟩ = some (.slice la ps.length lc) := by rw [Lib.cell_of_heap hS.com]; rfl
    have c2 : W.cell? ⟨B, 2, none⟩ = some (.int .i64 tm) := by rw [Lib.cell_of_heap hS.com]; rfl
    have c3 : W.cell? ⟨B, 3, none⟩ = some (.string no) := by rw [Lib.cell_of_heap hS.com]; rfl
    rw [z3] at hD
    gi_wp2
    refine region_wide (S := fun u => u.cell? ⟨B, 0, none⟩ = some (.string t) ∧ u.cell? ⟨B, 1, none⟩ = some (.slice la ps.length lc) ∧ u.cell? ⟨B, 2, none⟩ = some (.int .i64 tm) ∧ u.cell? ⟨B, 3, none⟩ = some (.string no)) (by kernel_rfl) ⟨c0, c1, c2, c3⟩ (fun hHeld => ?_)
    refine takeD (i := 0) (d := 62) (oi := _) (v := ?_) (listed' := #[true, false, false, false, false, false, false]) rfl (by kernel_rfl) (by kernel_rfl) (by kernel_rfl) (fun _ _ _ h => by cases h.1) (Or.inl ⟨by rfl, ?_⟩) hHeld (by kernel_rfl) (by kernel_rfl) ?_
    rotate_left
    · intro w hSw
      try dsimp only at hSw
      first
        | (go_simp; done)
        | (go_simp; with_reducible rfl)
    simp only [Act.put, List.setIfInBounds_toArray, List.set_cons_zero, List.set_cons_succ]
    refine takeD (i := 1) (d := 63) (oi := _) (v := ?_) (listed' := #[true, true, false, false, false, false, false]) rfl (by kernel_rfl) (by kernel_rfl) (by kernel_rfl) (fun _ _ _ h => by cases h.1) (Or.inl ⟨by rfl, ?_⟩) hHeld (by kernel_rfl) (by kernel_rfl) ?_
    rotate_left
    · intro w hSw
      try dsimp only at hSw
      first
        | (go_simp; done)
        | (go_simp; with_reducible rfl)
    simp only [Act.put, List.setIfInBounds_toArray, List.set_cons_zero, List.set_cons_succ]
    refine takeD (i := 2) (d := 64) (oi := _) (v := ?_) (listed' := #[true, true, true, false, false, false, false]) rfl (by kernel_rfl) (by kernel_rfl) (by kernel_rfl) (fun _ _ _ h => by cases h.1) (Or.inl ⟨by rfl, ?_⟩) hHeld (by kernel_rfl) (by kernel_rfl) ?_
    rotate_left
    · intro w hSw
      try dsimp only at hSw
      first
        | (go_simp; done)
        | (go_simp; with_reducible rfl)
    simp only [Act.put, List.setIfInBounds_toArray, List.set_cons_zero, List.set_cons_succ]
    refine takeD (i := 3) (d := 65) (oi := _) (v := ?_) (listed' := #[true, true, true, true, false, false, false]) rfl (by kernel_rfl) (by kernel_rfl) (by kernel_rfl) (fun _ _ _ h => by cases h.1) (Or.inl ⟨by rfl, ?_⟩) hHeld (by kernel_rfl) (by kernel_rfl) ?_
    rotate_left
    · intro w hSw
      try dsimp only at hSw
      first
        | (go_simp; done)
        | (go_simp; with_reducible rfl)
    simp only [Act.put, List.setIfInBounds_toArray, List.set_cons_zero, List.set_cons_succ]
    refine wpAnyH_ready (rs := [4]) (by kernel_rfl) (by simp) ?_
    refine AllReadyH.cons (o := _) rfl (fun K hK' => ?_) AllReadyH.nil
    go_simp
    refine hWt.mono ?_
    rintro e u4 ⟨hw2, k4⟩
    have K4 : Below W.heap.size W u4 := (below_drew (Below.refl _ W)).trans k4
    have s4 := hS.below K4
    have hK4 : u4.heap[D]? = some (.deferred (some [])) := blk_below hK K4
    have row4 := rowKept hrow K4
    have b4 : Below r w u4 := hB.trans (K4.mono (by omega))
    have t4 : u4.cell? ⟨B, 0, none⟩ = some (.string t) ∧ u4.cell? ⟨B, 1, none⟩ = some (.slice la ps.length lc) ∧ u4.cell? ⟨B, 2, none⟩ = some (.int .i64 tm) ∧ u4.cell? ⟨B, 3, none⟩ = some (.string no) := by
      rw [Lib.cell_of_heap s4.com, Lib.cell_of_heap s4.com, Lib.cell_of_heap s4.com, Lib.cell_of_heap s4.com]
      exact ⟨rfl, rfl, rfl, rfl⟩
    have p0 : u4.cell? ⟨r, 0, none⟩ = some (.string ⟨#[]⟩) := by rw [Lib.cell_of_heap s4.res]; rfl
    have p1 : u4.cell? ⟨r, 1, none⟩ = some (.slice none 0 0) := by rw [Lib.cell_of_heap s4.res]; rfl
    have p2 : u4.cell? ⟨r, 2, none⟩ = some (.int .i64 0) := by rw [Lib.cell_of_heap s4.res]; rfl
    have p3 : u4.cell? ⟨r, 3, none⟩ = some (.string ⟨#[]⟩) := by rw [Lib.cell_of_heap s4.res]; rfl
    have o0 : u4.frozen? ⟨r, 0, none⟩ = false := Lib.frozen_of_heap s4.res 0
    have o1 : u4.frozen? ⟨r, 1, none⟩ = false := Lib.frozen_of_heap s4.res 1
    have o2 : u4.frozen? ⟨r, 2, none⟩ = false := Lib.frozen_of_heap s4.res 2
    have o3 : u4.frozen? ⟨r, 3, none⟩ = false := Lib.frozen_of_heap s4.res 3
    have hdr : ¬ D = r := by omega
    have hdr1 : ¬ D = r + 1 := by omega
    rcases hw2 with ⟨hy, rfl⟩ | ⟨hy, TT, uu, rfl⟩
    · have e4 : Hid _ := t4
      obtain ⟨U, hU⟩ : ∃ U, (((u4.setCell ⟨r, 0, none⟩ (.string t)).setCell ⟨r, 1, none⟩ (.slice la ps.length lc)).setCell ⟨r, 2, none⟩ (.int .i64 tm)).setCell ⟨r, 3, none⟩ (.string no) = U := ⟨_, rfl⟩
      have v0 : U.heap[r]? = some (.cells #[.string t, .slice la ps.length lc, .int .i64 tm, .string no] 24 (0, 0)) := by rw [← hU]; exact blk_put (blk_put (blk_put (blk_put s4.res)))
      have v1 : U.heap[r + 1]? = some (.cells #[.nilIface] 58 (0, 0)) := by rw [← hU]; exact blk_set (blk_set (blk_set (blk_set s4.rer (by omega)) (by omega)) (by omega)) (by omega)
      have v2 : U.heap[B]? = some (.cells #[.string t, .slice la ps.length lc, .int .i64 tm, .string no] 24 (0, 0)) := by rw [← hU]; exact blk_set (blk_set (blk_set (blk_set s4.com (by omega)) (by omega)) (by omega)) (by omega)
      have v3 : Below r w U := by rw [← hU]; exact (((b4.setCell (p := ⟨r, 0, none⟩) (Nat.le_refl _) _).setCell (p := ⟨r, 1, none⟩) (Nat.le_refl _) _).setCell (p := ⟨r, 2, none⟩) (Nat.le_refl _) _).setCell (p := ⟨r, 3, none⟩) (Nat.le_refl _) _
      have v4 : U.heap[D]? = some (.deferred (some [])) := by rw [← hU]; exact blk_set (blk_set (blk_set (blk_set hK4 (by omega)) (by omega)) (by omega)) (by omega)
      have v5 : U.ownsRow (B + 3) 9 1 (.slice la ps.length lc) ps.length (ps.map Value.string) := by rw [← hU]; exact ownsRow_setCell_below (ownsRow_setCell_below (ownsRow_setCell_below (ownsRow_setCell_below row4 (a := ⟨r, 0, none⟩) (show r < B + 3 by omega) _) (a := ⟨r, 1, none⟩) (show r < B + 3 by omega) _) (a := ⟨r, 2, none⟩) (show r < B + 3 by omega) _) (a := ⟨r, 3, none⟩) (show r < B + 3 by omega) _
      have x0 : U.cell? ⟨B, 0, none⟩ = some (.string t) := by rw [Lib.cell_of_heap v2]; rfl
      have x1 : U.cell? ⟨B, 1, none⟩ = some (.slice la ps.length lc) := by rw [Lib.cell_of_heap v2]; rfl
      have x2 : U.cell? ⟨B, 2, none⟩ = some (.int .i64 tm) := by rw [Lib.cell_of_heap v2]; rfl
      have x3 : U.cell? ⟨B, 3, none⟩ = some (.string no) := by rw [Lib.cell_of_heap v2]; rfl
      have y4 : U.cell? ⟨r + 1, 0, none⟩ = some .nilIface := by rw [Lib.cell_of_heap v1]; rfl
      have z4 : U.frozen? ⟨r + 1, 0, none⟩ = false := Lib.frozen_of_heap v1 0
      have w2' := blk_set (c := r + 1) (o := 0) (v := .nilIface) v2 (by omega)
      have X0 : (U.setCell ⟨r + 1, 0, none⟩ (.nilIface)).cell? ⟨B, 0, none⟩ = some (.string t) := by rw [Lib.cell_of_heap w2']; rfl
      have X1 : (U.setCell ⟨r + 1, 0, none⟩ (.nilIface)).cell? ⟨B, 1, none⟩ = some (.slice la ps.length lc) := by rw [Lib.cell_of_heap w2']; rfl
      have X2 : (U.setCell ⟨r + 1, 0, none⟩ (.nilIface)).cell? ⟨B, 2, none⟩ = some (.int .i64 tm) := by rw [Lib.cell_of_heap w2']; rfl
      have X3 : (U.setCell ⟨r + 1, 0, none⟩ (.nilIface)).cell? ⟨B, 3, none⟩ = some (.string no) := by rw [Lib.cell_of_heap w2']; rfl
      have k5 : (U.setCell ⟨r + 1, 0, none⟩ (.nilIface)).heap[D]? = some (.deferred (some [])) := blk_set v4 (by omega)
      obtain ⟨Z, hZ⟩ : ∃ Z, (U.setCell ⟨r + 1, 0, none⟩ (.nilIface)).putObj D (.deferred none) = Z := ⟨_, rfl⟩
      have zD : Below r w Z := by rw [← hZ]; exact (v3.setCell (p := ⟨r + 1, 0, none⟩) (show r ≤ r + 1 by omega) _).trans (belowK_b (w := w) (Nat.le_of_eq hr.symm) _ D _ (.deferred none) (by omega) k5 rfl rfl)
      have zr : Z.heap[r]? = some (.cells #[.string t, .slice la ps.length lc, .int .i64 tm, .string no] 24 (0, 0)) := by rw [← hZ]; exact (World.putObj_heap_other (by omega)).trans (blk_set v0 (by omega))
      have ze : Z.heap[r + 1]? = some (.cells #[.nilIface] 58 (0, 0)) := by rw [← hZ]; exact (World.putObj_heap_other (by omega)).trans (blk_put v1)
      have zo : Z.ownsRow (r + 2) 9 1 (.slice la ps.length lc) ps.length (ps.map Value.string) := by rw [← hZ]; exact rowDown (ownsRow_putObj (ownsRow_setCell_below v5 (a := ⟨r + 1, 0, none⟩) (show r + 1 < B + 3 by omega) _) _ k5 rfl) (by omega)
      have g0 : Z.cell? ⟨r, 0, none⟩ = some (.string t) := by rw [Lib.cell_of_heap zr]; rfl
      have g1 : Z.cell? ⟨r, 1, none⟩ = some (.slice la ps.length lc) := by rw [Lib.cell_of_heap zr]; rfl
      have g2 : Z.cell? ⟨r, 2, none⟩ = some (.int .i64 tm) := by rw [Lib.cell_of_heap zr]; rfl
      have g3 : Z.cell? ⟨r, 3, none⟩ = some (.string no) := by rw [Lib.cell_of_heap zr]; rfl
      have g4 : Z.cell? ⟨r + 1, 0, none⟩ = some (.nilIface) := by rw [Lib.cell_of_heap ze]; rfl
      have HR : Hid (RC s w (.returned (.tuple #[.agg #[.string t, .slice la ps.length lc, .int .i64 tm, .string no], .nilIface])) Z) := ⟨by rw [hr]; exact zD, .inl ⟨_, _, _, _, _, by rw [hE, if_pos ⟨hy.1, by rw [← hy.2]; rfl⟩], rfl, by rw [hr]; exact zo⟩⟩
      refine hK'.out _ _ t4 (fun _ => ?_)
      clear hK' K
      simp only [List.setIfInBounds_toArray, List.set_cons_zero, List.set_cons_succ]
      refine wpAnyH_ready (rs := [5]) (by kernel_rfl) (by simp) ?_
      refine AllReadyH.cons (o := _) rfl (fun K hK' => ?_) AllReadyH.nil
      go_simp
      refine hK'.out _ _ ⟨x0, x1, x2, x3⟩ (fun _ => ?_)
      clear hK' K
      simp only [List.setIfInBounds_toArray, List.set_cons_zero, List.set_cons_succ]
      refine wpAnyH_ready (rs := [6]) (by kernel_rfl) (by simp) ?_
      refine AllReadyH.cons (o := _) rfl (fun K hK' => ?_) AllReadyH.nil
      go_simp
      refine hK'.out _ _ ⟨X0, X1, X2, X3⟩ (fun _ => ?_)
      clear hK' K
      simp only [List.setIfInBounds_toArray, List.set_cons_zero, List.set_cons_succ]
      refine wpAnyH_done (by kernel_rfl) ?_ _
      refine ⟨rfl, ?_⟩
      gi_wp2
      refine ⟨by simp, .inl ⟨_, _, rfl, run_takeDeferred k5, ?_⟩⟩
      rw [hZ]
      exact ⟨.tuple #[.agg #[.string t, .slice la ps.length lc, .int .i64 tm, .string no], .nilIface], by simp [results, Tryz.results30, go_sem, g0, g1, g2, g3, g4], HR.out⟩
    · have e4 : Hid _ := t4
      obtain ⟨U, hU⟩ : ∃ U, (((u4.setCell ⟨r, 0, none⟩ (.string t)).setCell ⟨r, 1, none⟩ (.slice la ps.length lc)).setCell ⟨r, 2, none⟩ (.int .i64 tm)).setCell ⟨r, 3, none⟩ (.string no) = U := ⟨_, rfl⟩
      have v0 : U.heap[r]? = some (.cells #[.string t, .slice la ps.length lc, .int .i64 tm, .string no] 24 (0, 0)) := by rw [← hU]; exact blk_put (blk_put (blk_put (blk_put s4.res)))
      have v1 : U.heap[r + 1]? = some (.cells #[.nilIface] 58 (0, 0)) := by rw [← hU]; exact blk_set (blk_set (blk_set (blk_set s4.rer (by omega)) (by omega)) (by omega)) (by omega)
      have v2 : U.heap[B]? = some (.cells #[.string t, .slice la ps.length lc, .int .i64 tm, .string no] 24 (0, 0)) := by rw [← hU]; exact blk_set (blk_set (blk_set (blk_set s4.com (by omega)) (by omega)) (by omega)) (by omega)
      have v3 : Below r w U := by rw [← hU]; exact (((b4.setCell (p := ⟨r, 0, none⟩) (Nat.le_refl _) _).setCell (p := ⟨r, 1, none⟩) (Nat.le_refl _) _).setCell (p := ⟨r, 2, none⟩) (Nat.le_refl _) _).setCell (p := ⟨r, 3, none⟩) (Nat.le_refl _) _
      have v4 : U.heap[D]? = some (.deferred (some [])) := by rw [← hU]; exact blk_set (blk_set (blk_set (blk_set hK4 (by omega)) (by omega)) (by omega)) (by omega)
      have v5 : U.ownsRow (B + 3) 9 1 (.slice la ps.length lc) ps.length (ps.map Value.string) := by rw [← hU]; exact ownsRow_setCell_below (ownsRow_setCell_below (ownsRow_setCell_below (ownsRow_setCell_below row4 (a := ⟨r, 0, none⟩) (show r < B + 3 by omega) _) (a := ⟨r, 1, none⟩) (show r < B + 3 by omega) _) (a := ⟨r, 2, none⟩) (show r < B + 3 by omega) _) (a := ⟨r, 3, none⟩) (show r < B + 3 by omega) _
      have x0 : U.cell? ⟨B, 0, none⟩ = some (.string t) := by rw [Lib.cell_of_heap v2]; rfl
      have x1 : U.cell? ⟨B, 1, none⟩ = some (.slice la ps.length lc) := by rw [Lib.cell_of_heap v2]; rfl
      have x2 : U.cell? ⟨B, 2, none⟩ = some (.int .i64 tm) := by rw [Lib.cell_of_heap v2]; rfl
      have x3 : U.cell? ⟨B, 3, none⟩ = some (.string no) := by rw [Lib.cell_of_heap v2]; rfl
      have y4 : U.cell? ⟨r + 1, 0, none⟩ = some .nilIface := by rw [Lib.cell_of_heap v1]; rfl
      have z4 : U.frozen? ⟨r + 1, 0, none⟩ = false := Lib.frozen_of_heap v1 0
      have w2' := blk_set (c := r + 1) (o := 0) (v := .iface 100 (.agg #[.iface TT uu])) v2 (by omega)
      have X0 : (U.setCell ⟨r + 1, 0, none⟩ (.iface 100 (.agg #[.iface TT uu]))).cell? ⟨B, 0, none⟩ = some (.string t) := by rw [Lib.cell_of_heap w2']; rfl
      have X1 : (U.setCell ⟨r + 1, 0, none⟩ (.iface 100 (.agg #[.iface TT uu]))).cell? ⟨B, 1, none⟩ = some (.slice la ps.length lc) := by rw [Lib.cell_of_heap w2']; rfl
      have X2 : (U.setCell ⟨r + 1, 0, none⟩ (.iface 100 (.agg #[.iface TT uu]))).cell? ⟨B, 2, none⟩ = some (.int .i64 tm) := by rw [Lib.cell_of_heap w2']; rfl
      have X3 : (U.setCell ⟨r + 1, 0, none⟩ (.iface 100 (.agg #[.iface TT uu]))).cell? ⟨B, 3, none⟩ = some (.string no) := by rw [Lib.cell_of_heap w2']; rfl
      have k5 : (U.setCell ⟨r + 1, 0, none⟩ (.iface 100 (.agg #[.iface TT uu]))).heap[D]? = some (.deferred (some [])) := blk_set v4 (by omega)
      obtain ⟨Z, hZ⟩ : ∃ Z, (U.setCell ⟨r + 1, 0, none⟩ (.iface 100 (.agg #[.iface TT uu]))).putObj D (.deferred none) = Z := ⟨_, rfl⟩
      have zD : Below r w Z := by rw [← hZ]; exact (v3.setCell (p := ⟨r + 1, 0, none⟩) (show r ≤ r + 1 by omega) _).trans (belowK_b (w := w) (Nat.le_of_eq hr.symm) _ D _ (.deferred none) (by omega) k5 rfl rfl)
      have zr : Z.heap[r]? = some (.cells #[.string t, .slice la ps.length lc, .int .i64 tm, .string no] 24 (0, 0)) := by rw [← hZ]; exact (World.putObj_heap_other (by omega)).trans (blk_set v0 (by omega))
      have ze : Z.heap[r + 1]? = some (.cells #[.iface 100 (.agg #[.iface TT uu])] 58 (0, 0)) := by rw [← hZ]; exact (World.putObj_heap_other (by omega)).trans (blk_put v1)
      have zo : Z.ownsRow (r + 2) 9 1 (.slice la ps.length lc) ps.length (ps.map Value.string) := by rw [← hZ]; exact rowDown (ownsRow_putObj (ownsRow_setCell_below v5 (a := ⟨r + 1, 0, none⟩) (show r + 1 < B + 3 by omega) _) _ k5 rfl) (by omega)
      have g0 : Z.cell? ⟨r, 0, none⟩ = some (.string t) := by rw [Lib.cell_of_heap zr]; rfl
      have g1 : Z.cell? ⟨r, 1, none⟩ = some (.slice la ps.length lc) := by rw [Lib.cell_of_heap zr]; rfl
      have g2 : Z.cell? ⟨r, 2, none⟩ = some (.int .i64 tm) := by rw [Lib.cell_of_heap zr]; rfl
      have g3 : Z.cell? ⟨r, 3, none⟩ = some (.string no) := by rw [Lib.cell_of_heap zr]; rfl
      have g4 : Z.cell? ⟨r + 1, 0, none⟩ = some (.iface 100 (.agg #[.iface TT uu])) := by rw [Lib.cell_of_heap ze]; rfl
      have HR : Hid (RC s w (.returned (.tuple #[.agg #[.string t, .slice la ps.length lc, .int .i64 tm, .string no], .iface 100 (.agg #[.iface TT uu])])) Z) := ⟨by rw [hr]; exact zD, .inr ⟨by rw [hE, if_neg (fun q => hy ⟨q.1, WideShapes.bytes_inj q.2⟩)], _, _, _, _, _, _, _, _, rfl⟩⟩
      refine hK'.out _ _ t4 (fun _ => ?_)
      clear hK' K
      simp only [List.setIfInBounds_toArray, List.set_cons_zero, List.set_cons_succ]
      refine wpAnyH_ready (rs := [5]) (by kernel_rfl) (by simp) ?_
      refine AllReadyH.cons (o := _) rfl (fun K hK' => ?_) AllReadyH.nil
      go_simp
      refine hK'.out _ _ ⟨x0, x1, x2, x3⟩ (fun _ => ?_)
      clear hK' K
      simp only [List.setIfInBounds_toArray, List.set_cons_zero, List.set_cons_succ]
      refine wpAnyH_ready (rs := [6]) (by kernel_rfl) (by simp) ?_
      refine AllReadyH.cons (o := _) rfl (fun K hK' => ?_) AllReadyH.nil
      go_simp
      refine hK'.out _ _ ⟨X0, X1, X2, X3⟩ (fun _ => ?_)
      clear hK' K
      simp only [List.setIfInBounds_toArray, List.set_cons_zero, List.set_cons_succ]
      refine wpAnyH_done (by kernel_rfl) ?_ _
      refine ⟨rfl, ?_⟩
      gi_wp2
      refine ⟨by simp, .inl ⟨_, _, rfl, run_takeDeferred k5, ?_⟩⟩
      rw [hZ]
      exact ⟨.tuple #[.agg #[.string t, .slice la ps.length lc, .int .i64 tm, .string no], .iface 100 (.agg #[.iface TT uu])], by simp [results, Tryz.results30, go_sem, g0, g1, g2, g3, g4], HR.out⟩
  case stop =>
    rintro D c pre W hD hpre ⟨⟨rfl, hp, hr0, TT, uu, hr1⟩, hB⟩ hK
    have hE := dcI_stop hpre hp
    rw [z3] at hD
    obtain ⟨Z, hZ⟩ : ∃ Z, W.putObj D (.deferred none) = Z := ⟨_, rfl⟩
    have zD : Below r w Z := by rw [← hZ]; exact hB.trans (belowK_b (w := w) (Nat.le_of_eq hr.symm) _ D _ (.deferred none) (by omega) hK rfl rfl)
    have zr := (World.putObj_heap_other (w := W) (o := .deferred none) (show ¬ r = D by omega)).trans hr0
    have ze := (World.putObj_heap_other (w := W) (o := .deferred none) (show ¬ r + 1 = D by omega)).trans hr1
    rw [hZ] at zr ze
    have g0 : Z.cell? ⟨r, 0, none⟩ = some (.string ⟨#[]⟩) := by rw [Lib.cell_of_heap zr]; rfl
    have g1 : Z.cell? ⟨r, 1, none⟩ = some (.slice none 0 0) := by rw [Lib.cell_of_heap zr]; rfl
    have g2 : Z.cell? ⟨r, 2, none⟩ = some (.int .i64 0) := by rw [Lib.cell_of_heap zr]; rfl
    have g3 : Z.cell? ⟨r, 3, none⟩ = some (.string ⟨#[]⟩) := by rw [Lib.cell_of_heap zr]; rfl
    have g4 : Z.cell? ⟨r + 1, 0, none⟩ = some (.iface 100 (.agg #[.iface TT uu])) := by rw [Lib.cell_of_heap ze]; rfl
    have HR : Hid (RC s w (.returned (.tuple #[.agg #[.string ⟨#[]⟩, .slice none 0 0, .int .i64 0, .string ⟨#[]⟩], .iface 100 (.agg #[.iface TT uu])])) Z) := ⟨by rw [hr]; exact zD, .inr ⟨hE, _, _, _, _, _, _, _, _, rfl⟩⟩
    gi_wp2
    refine ⟨by simp, .inl ⟨_, _, rfl, run_takeDeferred hK, ?_⟩⟩
    rw [hZ]
    exact ⟨.tuple #[.agg #[.string ⟨#[]⟩, .slice none 0 0, .int .i64 0, .string ⟨#[]⟩], .iface 100 (.agg #[.iface TT uu])], by simp [results, Tryz.results30, go_sem, g0, g1, g2, g3, g4], HR.out⟩
end Go.Proofs.YtgidcncmicmggamGreatDoor.Dc
/- The contracts of the program's readCommit (whole) and DecodeCommit. No statement is proved here. -/
set_option linter.unusedVariables false
namespace Go.Proofs.YtgidcncmicmggamGreatDoor.Dc
open Go.ChangeShapes Go.WideShapes Go.ChangeAt Go.RowKit

set_option maxRecDepth 20000 in
set_option maxHeartbeats 1000000 in
theorem readCommit_no (s : ByteArray) (w : World) (hs : s.size ≤ 1048576) (h0 : ¬ tf s = 0) :
    Calls Tryz.prog 30 #[.string s] w fun e w' => RC s w e w' := by
  have hT := fun w => implTextFault s w hs
  have HI : Hid (dcI pI s = none) := dcI_tf h0
  obtain ⟨q, hr⟩ : ∃ r, tf s = r := ⟨_, rfl⟩
  rw [hr] at h0
  simp only [hr] at hT
  have hq : (q != 0) = true := by simpa using h0
  clear hr h0
  obtain ⟨r, hr⟩ : ∃ r, w.heap.size = r := ⟨_, rfl⟩
  obtain ⟨W0, hW0⟩ : ∃ W, (w.alloc (.cells #[.string ⟨#[]⟩, .slice none 0 0, .int .i64 0, .string ⟨#[]⟩] 24)).alloc (.cells #[.nilIface] 58) = W := ⟨_, rfl⟩
  have b0 : Below r w W0 := by rw [← hW0, ← hr]; exact (allocBelow _ _).trans ((allocBelow _ _).mono (by simp))
  have z0 : r + 2 ≤ W0.heap.size := by rw [← hW0, ← hr]; simp
  have v0 : Rf W0 r [.string ⟨#[]⟩, .slice none 0 0, .int .i64 0, .string ⟨#[]⟩] := by rw [← hW0, ← hr]; exact (Rf.new w #[.string ⟨#[]⟩, .slice none 0 0, .int .i64 0, .string ⟨#[]⟩] _).below (by simp) (allocBelow _ _)
  have v1 : Rf W0 (r + 1) [.nilIface] := by
    rw [← hW0, ← hr]
    have := Rf.new (w.alloc (.cells #[.string ⟨#[]⟩, .slice none 0 0, .int .i64 0, .string ⟨#[]⟩] 24)) #[.nilIface] 58
    rwa [World.size_alloc] at this
  go_enter Tryz.func30, Tryz.ntmps30
  go_wp2_with fail
  refine (hT _).mono ?_; rintro e w1 ⟨rfl, b1⟩
  have B1 : Below r w w1 := b0.trans (b1.mono (by omega))
  have r1 := v0.below (by omega) b1
  have r2 := v1.below (by omega) b1
  have d0 := r1.at_ 0 _ rfl
  have d1 := r1.at_ 1 _ rfl
  have d2 := r1.at_ 2 _ rfl
  have d3 := r1.at_ 3 _ rfl
  have d4 := r2.at_ 0 _ rfl
  have f0 := r1.fz 0
  have f1 := r1.fz 1
  have f2 := r1.fz 2
  have f3 := r1.fz 3
  have f4 := r2.fz 0
  have HB : ∀ x0 x1 x2 x3 x4, Hid (Below r w (((((w1.setCell ⟨r, 0, none⟩ x0).setCell ⟨r, 1, none⟩ x1).setCell ⟨r, 2, none⟩ x2).setCell ⟨r, 3, none⟩ x3).setCell ⟨r + 1, 0, none⟩ x4)) := fun _ _ _ _ _ => setBelow (setBelow (setBelow (setBelow (setBelow B1 (Nat.le_refl _)) (Nat.le_refl _)) (Nat.le_refl _)) (Nat.le_refl _)) (by omega)
  have HR : ∀ x0 x1 x2 x3 x4, Hid (Rf (((((w1.setCell ⟨r, 0, none⟩ x0).setCell ⟨r, 1, none⟩ x1).setCell ⟨r, 2, none⟩ x2).setCell ⟨r, 3, none⟩ x3).setCell ⟨r + 1, 0, none⟩ x4) r [x0, x1, x2, x3]) := fun x0 x1 x2 x3 x4 => ((((r1.set (o := 0) (by simp) x0).set (o := 1) (by simp) x1).set (o := 2) (by simp) x2).set (o := 3) (by simp) x3).other (by omega) x4
  have HS : ∀ x0 x1 x2 x3 x4, Hid (Rf (((((w1.setCell ⟨r, 0, none⟩ x0).setCell ⟨r, 1, none⟩ x1).setCell ⟨r, 2, none⟩ x2).setCell ⟨r, 3, none⟩ x3).setCell ⟨r + 1, 0, none⟩ x4) (r + 1) [x4]) := fun x0 x1 x2 x3 x4 => ((((r2.other (by omega) x0).other (by omega) x1).other (by omega) x2).other (by omega) x3).set (o := 0) (by simp) x4
  clear hT b0 b1 B1 r1 r2 v0 v1 hW0
  go_wp2
  have R4 := (HR (.string ⟨#[]⟩) (.slice none 0 0) (.int .i64 0) (.string ⟨#[]⟩) (.iface 100 (.agg #[.iface 98 (.agg #[.int .i64 q])]))).out
  have R5 := (HS (.string ⟨#[]⟩) (.slice none 0 0) (.int .i64 0) (.string ⟨#[]⟩) (.iface 100 (.agg #[.iface 98 (.agg #[.int .i64 q])]))).out
  have g0 := R4.at_ 0 _ rfl
  have g1 := R4.at_ 1 _ rfl
  have g2 := R4.at_ 2 _ rfl
  have g3 := R4.at_ 3 _ rfl
  have g4 := R5.at_ 0 _ rfl
  refine bodyPost_ret (v := .tuple #[.agg #[.string ⟨#[]⟩, .slice none 0 0, .int .i64 0, .string ⟨#[]⟩], .iface 100 (.agg #[.iface 98 (.agg #[.int .i64 q])])]) (by simp [results, Tryz.results30, go_sem, g0, g1, g2, g3, g4]) rfl ?_
  unfold RC
  rw [hr]
  exact ⟨(HB _ _ _ _ _).out, .inr ⟨HI.out, _, _, _, _, _, _, _, _, rfl⟩⟩
theorem readCommitC (s : ByteArray) (w : World) (hs : s.size ≤ 1048576) (hTa : TaG w) (hgB : 6 < w.heap.size) (ho : OfG w) (hoB : 0 < w.heap.size) (hP : PeG w) (hP1 : 3 < w.heap.size) (hP2 : 4 < w.heap.size) :
    Calls Tryz.prog 30 #[.string s] w fun e w' => RC s w e w' := by
  by_cases h0 : tf s = 0
  · exact readCommit_ok s w hs h0 hTa hgB ho hoB hP hP1 hP2
  · exact readCommit_no s w hs h0
set_option maxRecDepth 20000 in
set_option maxHeartbeats 2000000 in
theorem implDecodeCommit (s : ByteArray) (w : World) (hs : s.size ≤ 1048576) (hTa : TaG w) (hgB : 6 < w.heap.size) (ho : OfG w) (hoB : 0 < w.heap.size) (hP : PeG w) (hP1 : 3 < w.heap.size) (hP2 : 4 < w.heap.size) (hE : ErrG w) :
    Calls Tryz.prog 7 #[.string s] w fun e w' => DC s w e w' := by
  obtain ⟨b, hb⟩ : ∃ b, w.heap.size = b := ⟨_, rfl⟩
  obtain ⟨W1, hW1⟩ : ∃ W1, w.alloc (.cells #[.int .i64 0, .string ⟨#[]⟩, .slice none 0 0, .int .i64 0, .string ⟨#[]⟩] 26) = W1 := ⟨_, rfl⟩
  have b1 : Below b w W1 := by rw [← hW1, ← hb]; exact allocBelow _ _
  have z1 : b < W1.heap.size := by rw [← hW1, ← hb]; simp
  have r1 : Rf W1 b [.int .i64 0, .string ⟨#[]⟩, .slice none 0 0, .int .i64 0, .string ⟨#[]⟩] := by rw [← hW1, ← hb]; exact Rf.new _ _ _
  rw [hb] at hgB hoB hP1 hP2
  have hR := readCommitC s W1 hs (hTa.below b1 hgB) (by omega) (ho.below b1 hoB) (by omega) (hP.below b1 hP1 hP2) (by omega) (by omega)
  have hEw : ∀ {w'}, Below b w w' → ErrG w' := fun h => hE.below (show Below w.heap.size w _ by rw [hb]; exact h)
  go_enter Tryz.func7, Tryz.ntmps7
  go_wp2_with fail
  refine hR.mono ?_
  rintro e w2 ⟨b2, he⟩
  have r2 := r1.below z1 b2
  have B2 : Below b w w2 := b1.trans (b2.mono (Nat.le_of_lt z1))
  have z2 := b2.size
  have hz : b < w2.heap.size := by omega
  clear hR r1 hW1 b1
  rcases he with ⟨t, ps, tm, no, v, hy, rfl, hrow⟩ | ⟨hy, t, la, ln, lc, tm, no, T, u, rfl⟩
  · have HY : Hid _ := dc_some hy
    obtain ⟨la, lc, rfl⟩ : ∃ a c, v = .slice a ps.length c := by
      rcases hrow.2 with ⟨h', h0'⟩ | ⟨g, c, cur, h', _⟩
      · exact ⟨none, 0, by rw [h', h0']⟩
      · exact ⟨_, _, h'⟩
    have d0 := r2.at_ 0 _ rfl
    have d1 := r2.at_ 1 _ rfl
    have d2 := r2.at_ 2 _ rfl
    have d3 := r2.at_ 3 _ rfl
    have d4 := r2.at_ 4 _ rfl
    have f0 := r2.fz 0
    have f1 := r2.fz 1
    have f2 := r2.fz 2
    have f3 := r2.fz 3
    have f4 := r2.fz 4
    have HR := fun x0 x1 x2 x3 x4 o => rf5 r2 rfl hz x0 x1 x2 x3 x4 o
    have hrow1 := rowDown hrow (show b + 1 ≤ W1.heap.size + 2 by omega)
    clear hy hrow r2
    go_wp2
    have R5 := HR (.int .i64 0) (.string t) (.slice la ps.length lc) (.int .i64 tm) (.string no) (.cells #[.string t, .slice la ps.length lc, .int .i64 tm, .string no] 24)
    have g0 := R5.at_ 0 _ rfl
    have g1 := R5.at_ 1 _ rfl
    have g2 := R5.at_ 2 _ rfl
    have g3 := R5.at_ 3 _ rfl
    have g4 := R5.at_ 4 _ rfl
    refine bodyPost_ret (v := .agg #[.int .i64 0, .string t, .slice la ps.length lc, .int .i64 tm, .string no]) (by simp [results, Tryz.results7, go_sem, g0, g1, g2, g3, g4]) rfl ?_
    unfold DC
    rw [HY.out.1, HY.out.2, hb]
    exact ⟨_, rfl, (own5 hrow1 _ _ _ _ _).alloc _, (below5 B2 _ _ _ _ _).alloc (by simpa using Nat.le_of_lt hz) _⟩
  · have HY : Hid _ := dc_none hy
    obtain ⟨W3, hW3⟩ : ∃ W, w2.alloc (.cells #[.string t, .slice la ln lc, .int .i64 tm, .string no] 24) = W := ⟨_, rfl⟩
    have b3 : Below w2.heap.size w2 W3 := by rw [← hW3]; exact allocBelow _ _
    have B3 : Below b w W3 := B2.trans (b3.mono (Nat.le_of_lt hz))
    have r3 := r2.below hz b3
    have z3 := b3.size
    have hD := codeOf_read T u W3 (hEw B3)
    clear hy r2 b2 B2
    go_wp2_with fail
    refine hD.mono ?_
    rintro e w4 ⟨rfl, b4⟩
    have r4 := r3.below (by omega) b4
    have B4 : Below b w w4 := B3.trans (b4.mono (by omega))
    have hz4 : b < w4.heap.size := by have := b4.size; omega
    have d0 := r4.at_ 0 _ rfl
    have d1 := r4.at_ 1 _ rfl
    have d2 := r4.at_ 2 _ rfl
    have d3 := r4.at_ 3 _ rfl
    have d4 := r4.at_ 4 _ rfl
    have f0 := r4.fz 0
    have f1 := r4.fz 1
    have f2 := r4.fz 2
    have f3 := r4.fz 3
    have f4 := r4.fz 4
    have HR : ∀ x0 x1 x2 x3 x4, Rf (((((w4.setCell ⟨b, 0, none⟩ x0).setCell ⟨b, 1, none⟩ x1).setCell ⟨b, 2, none⟩ x2).setCell ⟨b, 3, none⟩ x3).setCell ⟨b, 4, none⟩ x4) b [x0, x1, x2, x3, x4] := fun x0 x1 x2 x3 x4 => ((((r4.set (o := 0) (by simp) x0).set (o := 1) (by simp) x1).set (o := 2) (by simp) x2).set (o := 3) (by simp) x3).set (o := 4) (by simp) x4
    clear hD r3 r4 b3 B3 b4 hW3
    go_wp2
    have R5 := HR (.int .i64 5) (.string ⟨#[]⟩) (.slice none 0 0) (.int .i64 0) (.string ⟨#[]⟩)
    have g0 := R5.at_ 0 _ rfl
    have g1 := R5.at_ 1 _ rfl
    have g2 := R5.at_ 2 _ rfl
    have g3 := R5.at_ 3 _ rfl
    have g4 := R5.at_ 4 _ rfl
    refine bodyPost_ret (v := .agg #[.int .i64 5, .string ⟨#[]⟩, .slice none 0 0, .int .i64 0, .string ⟨#[]⟩]) (by simp [results, Tryz.results7, go_sem, g0, g1, g2, g3, g4]) rfl ?_
    unfold DC
    rw [HY.out.1, HY.out.2, hb]
    exact ⟨_, rfl, World.ownsRow_nil _ _ _ _, below5 B4 _ _ _ _ _⟩
end Go.Proofs.YtgidcncmicmggamGreatDoor.Dc
/- What the laid variables of DecodeCommit give a walk. No statement is proved here. -/
namespace Go.Proofs.YtgidcncmicmggamGreatDoor.Dc
open Go.ChangeShapes Go.WideShapes Go.ChangeAt Go.RowKit

theorem gOf : Tryz.prog.globalNamed "loop.example/g00172/impl.errOtherForm" = some 0 := by kernel_rfl
theorem tOf : (Tryz.prog.globals[0]?).map (·.type) = some 58 := by kernel_rfl
theorem gSy : Tryz.prog.globalNamed "strconv.ErrSyntax" = some 3 := by kernel_rfl
theorem tSy : (Tryz.prog.globals[3]?).map (·.type) = some 58 := by kernel_rfl
theorem gRa : Tryz.prog.globalNamed "strconv.ErrRange" = some 4 := by kernel_rfl
theorem tRa : (Tryz.prog.globals[4]?).map (·.type) = some 58 := by kernel_rfl
theorem err_of1 {W : World} {cs : Array Value} {name : String} {g fuel : Nat} {p : List MemPlace} (hg : Tryz.prog.globalNamed name = some g) (hv : W.var? Tryz.prog name = some cs) (hd : DataW.trod (fun _ => ()) Tryz.prog W 0 (fun _ => true) false fuel 58 cs.toList = some (Rows.laid_strconv_ErrSyntax, p)) : ∃ (T : TypeId) (u : Value), W.cell? ⟨g, 0, none⟩ = some (.iface T u) := by
  obtain ⟨f1, u, v, e, _, _⟩ := iface_of_trod Tryz.underlying58 hd
  have e' : cs = #[.iface u v] := by cases cs; simpa using e
  subst e'
  have k0 := World.var?_cell hg hv 0
  exact ⟨u, v, by simpa using k0⟩
theorem err_of2 {W : World} {cs : Array Value} {name : String} {g fuel : Nat} {p : List MemPlace} (hg : Tryz.prog.globalNamed name = some g) (hv : W.var? Tryz.prog name = some cs) (hd : DataW.trod (fun _ => ()) Tryz.prog W 0 (fun _ => true) false fuel 58 cs.toList = some (Rows.laid_strconv_ErrRange, p)) : ∃ (T : TypeId) (u : Value), W.cell? ⟨g, 0, none⟩ = some (.iface T u) := by
  obtain ⟨f1, u, v, e, _, _⟩ := iface_of_trod Tryz.underlying58 hd
  have e' : cs = #[.iface u v] := by cases cs; simpa using e
  subst e'
  have k0 := World.var?_cell hg hv 0
  exact ⟨u, v, by simpa using k0⟩
theorem err_of3 {W : World} {cs : Array Value} {name : String} {g fuel : Nat} {p : List MemPlace} (hg : Tryz.prog.globalNamed name = some g) (hv : W.var? Tryz.prog name = some cs) (hd : DataW.trod (fun _ => ()) Tryz.prog W 0 (fun _ => true) false fuel 58 cs.toList = some (Rows.laid_loop_example_g00172_impl_errOtherForm, p)) : ∃ (T : TypeId) (u : Value), W.cell? ⟨g, 0, none⟩ = some (.iface T u) := by
  obtain ⟨f1, u, v, e, _, _⟩ := iface_of_trod Tryz.underlying58 hd
  have e' : cs = #[.iface u v] := by cases cs; simpa using e
  subst e'
  have k0 := World.var?_cell hg hv 0
  exact ⟨u, v, by simpa using k0⟩
theorem dc_laid {W : World} (h : laidMetH Tryz.prog Rows.fnExactDecodeCommitRow.laid W) : TaG W ∧ OfG W ∧ PeG W ∧ ErrG W := by
  have h' : laidMet Tryz.prog [("math/bits.deBruijn32tab", Rows.laid_math_bits_deBruijn32tab), ("math/bits.deBruijn64tab", Rows.laid_math_bits_deBruijn64tab), ("internal/strconv.uint64pow10", Lib.tabData .u64 Lib.pow10Tab), ("strconv.ErrRange", Rows.laid_strconv_ErrRange), ("strconv.ErrSyntax", Rows.laid_strconv_ErrSyntax), ("loop.example/g00172/impl.modeWords", Rows.laid_loop_example_g00172_impl_modeWords), ("loop.example/g00172/impl.errOtherForm", Rows.laid_loop_example_g00172_impl_errOtherForm)] W ∧ handlesMet Tryz.prog [("errors.errorType", Rows.laid_errors_errorType)] W := h
  obtain ⟨ps, ⟨_, _, _, _, _, _, _, _, _, _, ⟨_, _, _, _, _, _, _, _, _, _, ⟨gpow, tpow, cspow, fpow, ppow, qpow, hgpow, htpow, hvpow, hdpow, ⟨grng, trng, csrng, frng, prng, qrng, hgrng, htrng, hvrng, hdrng, ⟨gsyn, tsyn, cssyn, fsyn, psyn, qsyn, hgsyn, htsyn, hvsyn, hdsyn, ⟨_, _, _, _, _, _, _, _, _, _, ⟨gof, tof, csof, fof, pof, qof, hgof, htof, hvof, hdof, _, _⟩, _⟩, _⟩, _⟩, _⟩, _⟩, _⟩, _, _⟩ := h'.1
  obtain rfl := Option.some.inj (gTa.symm.trans hgpow)
  obtain rfl := Option.some.inj (Cm.tTa.symm.trans htpow)
  obtain rfl := Option.some.inj (gRa.symm.trans hgrng)
  obtain rfl := Option.some.inj (tRa.symm.trans htrng)
  obtain rfl := Option.some.inj (gSy.symm.trans hgsyn)
  obtain rfl := Option.some.inj (tSy.symm.trans htsyn)
  obtain rfl := Option.some.inj (gOf.symm.trans hgof)
  obtain rfl := Option.some.inj (tOf.symm.trans htof)
  exact ⟨Cm.tab_of Tryz.underlying301 Tryz.underlying203 (by kernel_rfl) (by kernel_rfl) hvpow hdpow, err_of3 gOf hvof hdof, ⟨err_of1 gSy hvsyn hdsyn, err_of2 gRa hvrng hdrng⟩, Te.errG_of h'.2⟩
theorem dc_met (os : Os) (args : Array Value) : laidMetH Tryz.prog Rows.fnExactDecodeCommitRow.laid ((World.doorLaid Tryz.prog 400 os).forCall (fun _ _ => 0) ⟨#[], args, []⟩).memory :=
  laidMetH_of_parts3 (fuel := 8) (laidMet_of_run' 8 (by kernel_rfl) (by kernel_rfl)) (by kernel_rfl) (by kernel_rfl)
end Go.Proofs.YtgidcncmicmggamGreatDoor.Dc
/- Proved: at every text FnExactDecodeCommit returns true (DecodeCommit answers as its specification, field by field; its answer owns its memory, behind another call too); the card itself. -/
namespace Go.Proofs.YtgidcncmicmggamGreatDoor.DcLaw
open Go.Proofs.YtgidcncmicmggamGreatDoor.Dc
open Go.ChangeShapes Go.WideShapes Go.ChangeAt Go.RowKit
open Go.ChangeMaps (open_string shut_string)

theorem shapeO {w : World} {base : Nat} {e : TypeId} {s : Nat} {v : Value} {n : Nat} {xs : List Value} (h : w.ownsRow base e s v n xs) : ∃ a c, v = .slice a n c := by
  rcases h.2 with ⟨h', h0'⟩ | ⟨g, c, cur, h', _⟩
  · exact ⟨none, 0, by rw [h', h0']⟩
  · exact ⟨_, _, h'⟩
theorem ownOne (b n cap : Nat) : ∀ j, (Value.slice (some ⟨b, 0, none⟩) n cap).ownBlock = some j → b ≤ j ∧ j < b + 1 := by
  intro j hj
  have e : b = j := by simpa [Value.ownBlock] using hj
  omega
set_option maxRecDepth 20000 in
set_option maxHeartbeats 4000000 in
theorem walk (d : ByteArray) (w : World) (hT : TaG w) (hgB : 6 < w.heap.size) (ho : OfG w) (hoB : 0 < w.heap.size) (hP : PeG w) (hP1 : 3 < w.heap.size) (hP2 : 4 < w.heap.size) (hE : ErrG w) :
    Calls Tryz.prog 3 #[.string d] w fun e w' => e = .returned (.bool true) ∧ Below w.heap.size w w' := by
  have BB := Below.refl w.heap.size w
  by_cases hbig : (1048576 : Int) < (d.size : Int)
  · go_enter Tryz.func3, Tryz.ntmps3
    go_wp2
    go_ret
    exact ⟨rfl, BB⟩
  have hd : d.size ≤ 1048576 := by omega
  have hS : ∀ W, Calls Tryz.prog 6 #[.string d] W fun e w' => Dc.DC d W e w' := fun W => specDecodeCommit d W hd
  have hI : ∀ W, Below w.heap.size w W → Calls Tryz.prog 7 #[.string d] W fun e w' => Dc.DC d W e w' := fun W b => implDecodeCommit d W hd (hT.below b hgB) (Nat.lt_of_lt_of_le hgB b.size) (ho.below b hoB) (Nat.lt_of_lt_of_le hoB b.size) (hP.below b hP1 hP2) (Nat.lt_of_lt_of_le hP1 b.size) (Nat.lt_of_lt_of_le hP2 b.size) (hE.below b)
  have hLn := dcK_len d hd
  have zL := dcK_sizes d hd
  clear hT hgB ho hoB hP hP1 hP2 hE
  unfold Dc.DC at hS hI
  obtain ⟨r, hrr⟩ : ∃ r, dcC d = r := ⟨_, rfl⟩
  obtain ⟨⟨T0, L, M0, N0⟩, hL⟩ : ∃ L, dcK d = L := ⟨_, rfl⟩
  rw [hrr, hL] at hS hI
  rw [hL] at hLn zL
  simp only [] at hS hI hLn zL
  clear hrr hL
  go_enter Tryz.func3, Tryz.ntmps3
  go_wp2_with fail
  refine (hS  _ ).mono ?_; rintro e w1 ⟨vp, rfl, p, bp⟩
  obtain ⟨pa, pc, ep⟩ := shapeO p
  subst ep
  have jp : ∀ j, (Value.slice pa L.length pc).ownBlock = some j → w.heap.size ≤ j ∧ j < w1.heap.size := fun j hj => p.lt j hj
  have F2 : Fr w.heap.size w.heap.size w w1 := Fr.ofBelow bp
  replace BB := F2.below BB (by omega) (by omega)
  have SF2 := F2.size
  clear bp F2
  obtain ⟨W3, hW3⟩ : ∃ W, w1.alloc (.cells #[.int .i64 r, .string T0, .slice pa L.length pc, .int .i64 M0, .string N0] 26) = W := ⟨_, rfl⟩
  have Rp : Rs W3 w1.heap.size [.int .i64 r, .string T0, .slice pa L.length pc, .int .i64 M0, .string N0] := by rw [← hW3]; exact Rs.new _ _ _
  have F4 : Fr w.heap.size w.heap.size w1 W3 := by rw [← hW3]; exact Fr.ofAlloc _ _
  have zW3 : w1.heap.size < W3.heap.size := by rw [← hW3]; simp
  replace BB := F4.below BB (by omega) (by omega)
  replace p := F4.own p (fun j hj => by have := jp j hj; omega)
  have SF4 := F4.size
  clear F4
  go_wp2_with fail
  refine (hI  _ BB).mono ?_; rintro e w5 ⟨vq, rfl, q, bq⟩
  obtain ⟨qa, qc, eq⟩ := shapeO q
  subst eq
  have jq : ∀ j, (Value.slice qa L.length qc).ownBlock = some j → W3.heap.size ≤ j ∧ j < w5.heap.size := fun j hj => q.lt j hj
  have F6 : Fr w.heap.size w.heap.size W3 w5 := Fr.ofBelow bq
  replace BB := F6.below BB (by omega) (by omega)
  replace p := F6.own p (fun j hj => by have := jp j hj; omega)
  replace Rp := F6.rs Rp (by omega)
  have SF6 := F6.size
  clear bq F6
  obtain ⟨W7, hW7⟩ : ∃ W, w5.alloc (.cells #[.int .i64 r, .string T0, .slice qa L.length qc, .int .i64 M0, .string N0] 26) = W := ⟨_, rfl⟩
  have Rq : Rs W7 w5.heap.size [.int .i64 r, .string T0, .slice qa L.length qc, .int .i64 M0, .string N0] := by rw [← hW7]; exact Rs.new _ _ _
  have F8 : Fr w.heap.size w.heap.size w5 W7 := by rw [← hW7]; exact Fr.ofAlloc _ _
  have zW7 : w5.heap.size < W7.heap.size := by rw [← hW7]; simp
  replace BB := F8.below BB (by omega) (by omega)
  replace p := F8.own p (fun j hj => by have := jp j hj; omega)
  replace Rp := F8.rs Rp (by omega)
  replace q := F8.own q (fun j hj => by have := jq j hj; omega)
  have SF8 := F8.size
  clear F8
  have dp0 := Rp 0 _ rfl
  have dp1 := Rp 1 _ rfl
  have dp2 := Rp 2 _ rfl
  have dp3 := Rp 3 _ rfl
  have dp4 := Rp 4 _ rfl
  have dq0 := Rq 0 _ rfl
  have dq1 := Rq 1 _ rfl
  have dq2 := Rq 2 _ rfl
  have dq3 := Rq 3 _ rfl
  have dq4 := Rq 4 _ rfl
  go_wp2_with fail
  refine (eqCommitResult _ _ _ _ _ _ _ _ L _ (ownSS q zL) (ownSS p zL) (by omega)).mono ?_; rintro e w9 ⟨rfl, b⟩
  have F10 : Fr w.heap.size w.heap.size W7 w9 := Fr.ofBelow b
  replace BB := F10.below BB (by omega) (by omega)
  replace p := F10.own p (fun j hj => by have := jp j hj; omega)
  replace Rp := F10.rs Rp (by omega)
  replace q := F10.own q (fun j hj => by have := jq j hj; omega)
  replace Rq := F10.rs Rq (by omega)
  have SF10 := F10.size
  clear b F10
  clear dp0 dp1 dp2 dp3 dp4
  clear dq0 dq1 dq2 dq3 dq4
  clear hW7
  have dq0 := Rq 0 _ rfl
  have dq1 := Rq 1 _ rfl
  have dq2 := Rq 2 _ rfl
  have dq3 := Rq 3 _ rfl
  have dq4 := Rq 4 _ rfl
  go_wp2_with fail
  refine (markCommitResult W3.heap.size w5.heap.size _ _ _ _ _ L.length _ 1 _ _ (by omega) (by omega) q (fun j hj => (jq j hj).2)).mono ?_; rintro e w11 ⟨rfl, Q, FM⟩
  clear q
  clear dq0 dq1 dq2 dq3 dq4
  replace BB := FM.below BB (by omega) (by omega)
  replace p := FM.own p (fun j hj => by have := jp j hj; omega)
  replace Rp := FM.rs Rp (by omega)
  replace Rq := FM.rs Rq (by omega)
  have SFM := FM.size
  clear FM
  have jQ := jq
  obtain ⟨M, hM⟩ : ∃ M : Int, ((1 + L.length : Nat) : Int) = M := ⟨_, rfl⟩
  have hM0 : ¬ M < 0 := by omega
  have hMM : (M != M) = false := by simp
  rw [hM]
  have dq0 := Rq 0 _ rfl
  have dq1 := Rq 1 _ rfl
  have dq2 := Rq 2 _ rfl
  have dq3 := Rq 3 _ rfl
  have dq4 := Rq 4 _ rfl
  go_wp2_with fail
  refine (heldCommitResult _ _ _ _ _ L.length _ 1 _ (by omega) (by omega) (ssMarks Q (by omega))).mono ?_; rintro e w12 ⟨rfl, b⟩
  rw [hM]
  clear dq0 dq1 dq2 dq3 dq4
  have F13 : Fr w.heap.size w.heap.size w11 w12 := Fr.ofBelow b
  replace BB := F13.below BB (by omega) (by omega)
  replace p := F13.own p (fun j hj => by have := jp j hj; omega)
  replace Rp := F13.rs Rp (by omega)
  replace Rq := F13.rs Rq (by omega)
  replace Q := F13.own Q (fun j hj => by have := jQ j hj; omega)
  have SF13 := F13.size
  clear b F13
  go_wp2_with fail
  refine (hI  _ BB).mono ?_; rintro e w14 ⟨vs, rfl, s, bs⟩
  obtain ⟨sa, sc, es⟩ := shapeO s
  subst es
  have js : ∀ j, (Value.slice sa L.length sc).ownBlock = some j → w12.heap.size ≤ j ∧ j < w14.heap.size := fun j hj => s.lt j hj
  have F15 : Fr w.heap.size w.heap.size w12 w14 := Fr.ofBelow bs
  replace BB := F15.below BB (by omega) (by omega)
  replace p := F15.own p (fun j hj => by have := jp j hj; omega)
  replace Rp := F15.rs Rp (by omega)
  replace Rq := F15.rs Rq (by omega)
  replace Q := F15.own Q (fun j hj => by have := jQ j hj; omega)
  have SF15 := F15.size
  clear bs F15
  obtain ⟨W16, hW16⟩ : ∃ W, w14.alloc (.cells #[.int .i64 r, .string T0, .slice sa L.length sc, .int .i64 M0, .string N0] 26) = W := ⟨_, rfl⟩
  have Rs : Rs W16 w14.heap.size [.int .i64 r, .string T0, .slice sa L.length sc, .int .i64 M0, .string N0] := by rw [← hW16]; exact Rs.new _ _ _
  have F17 : Fr w.heap.size w.heap.size w14 W16 := by rw [← hW16]; exact Fr.ofAlloc _ _
  have zW16 : w14.heap.size < W16.heap.size := by rw [← hW16]; simp
  replace BB := F17.below BB (by omega) (by omega)
  replace p := F17.own p (fun j hj => by have := jp j hj; omega)
  replace Rp := F17.rs Rp (by omega)
  replace Rq := F17.rs Rq (by omega)
  replace Q := F17.own Q (fun j hj => by have := jQ j hj; omega)
  replace s := F17.own s (fun j hj => by have := js j hj; omega)
  have SF17 := F17.size
  clear F17
  have dp0 := Rp 0 _ rfl
  have dp1 := Rp 1 _ rfl
  have dp2 := Rp 2 _ rfl
  have dp3 := Rp 3 _ rfl
  have dp4 := Rp 4 _ rfl
  have ds0 := Rs 0 _ rfl
  have ds1 := Rs 1 _ rfl
  have ds2 := Rs 2 _ rfl
  have ds3 := Rs 3 _ rfl
  have ds4 := Rs 4 _ rfl
  go_wp2_with fail
  refine (eqCommitResult _ _ _ _ _ _ _ _ L _ (ownSS s zL) (ownSS p zL) (by omega)).mono ?_; rintro e w18 ⟨rfl, b⟩
  have F19 : Fr w.heap.size w.heap.size W16 w18 := Fr.ofBelow b
  replace BB := F19.below BB (by omega) (by omega)
  replace p := F19.own p (fun j hj => by have := jp j hj; omega)
  replace Rp := F19.rs Rp (by omega)
  replace Rq := F19.rs Rq (by omega)
  replace Q := F19.own Q (fun j hj => by have := jQ j hj; omega)
  replace s := F19.own s (fun j hj => by have := js j hj; omega)
  replace Rs := F19.rs Rs (by omega)
  have SF19 := F19.size
  clear b F19
  clear dp0 dp1 dp2 dp3 dp4
  clear ds0 ds1 ds2 ds3 ds4
  clear hW16
  have dq0 := Rq 0 _ rfl
  have dq1 := Rq 1 _ rfl
  have dq2 := Rq 2 _ rfl
  have dq3 := Rq 3 _ rfl
  have dq4 := Rq 4 _ rfl
  go_wp2_with fail
  refine (heldCommitResult _ _ _ _ _ L.length _ 1 _ (by omega) (by omega) (ssMarks Q (by omega))).mono ?_; rintro e w20 ⟨rfl, b⟩
  rw [hM]
  clear dq0 dq1 dq2 dq3 dq4
  have F21 : Fr w.heap.size w.heap.size w18 w20 := Fr.ofBelow b
  replace BB := F21.below BB (by omega) (by omega)
  replace p := F21.own p (fun j hj => by have := jp j hj; omega)
  replace Rp := F21.rs Rp (by omega)
  replace Rq := F21.rs Rq (by omega)
  replace Q := F21.own Q (fun j hj => by have := jQ j hj; omega)
  replace s := F21.own s (fun j hj => by have := js j hj; omega)
  replace Rs := F21.rs Rs (by omega)
  have SF21 := F21.size
  clear b F21
  go_wp2_with fail
  go_ret
  exact ⟨rfl, BB⟩

set_option linter.unusedVariables false
theorem laidOut : laidOutB Tryz.prog = true := by kernel_rfl
theorem two_vars {H : Type} {enc : TypeId × Value → H} {P : Program} {W : World} {sp : Nat → Bool} {x y : String} {q : List MemPlace} : ∀ {gs : List (DataW H)}, DataW.TrodVars enc P W sp [x, y] gs q → ∃ g1 g2, gs = [g1, g2]
  | [], h => by simp [DataW.TrodVars] at h
  | [_], h => by simp [DataW.TrodVars] at h
  | [a, b], _ => ⟨a, b, rfl⟩
  | _ :: _ :: _ :: _, h => by simp [DataW.TrodVars] at h
theorem own : ownKnob Tryz.prog.godebug = none := by kernel_rfl
set_option maxRecDepth 100000 in
theorem lifted (os : Os) (started : os.Started) (H : Type) (enc : TypeId × Value → H) :
    ReturnsInHanded {} Tryz.checked os 3 .any (fun w args => (Rows.fnExactDecodeCommitSpec.pre enc Tryz.prog Tryz.f3 [] false w args ∧ laidMetH Tryz.prog Rows.fnExactDecodeCommitRow.laid w) ∧ sizedMet enc Tryz.prog Tryz.f3 (OpenSpec.ofChange Rows.fnExactDecodeCommitSpec) false w args)
      (Rows.fnExactDecodeCommitSpec.post enc Tryz.prog Tryz.f3 false true false false) := by
  refine returnsInHanded_of_change_and (C := Tryz.checked) (X := fun w _ => laidMetH Tryz.prog Rows.fnExactDecodeCommitRow.laid w) (fun _ _ _ hh h => h.of_heap hh) own started (by kernel_rfl) Tryz.func3
    (ChangeSpec.witness_shaped (enc := enc) (C := Tryz.checked) (os := os) (X := fun w _ => laidMetH Tryz.prog Rows.fnExactDecodeCommitRow.laid w) false (World.doorLaid Tryz.prog 400 os) #[.string ByteArray.empty] 8 rfl (World.shaped_of_RefB (by kernel_rfl) (by kernel_rfl)) (by kernel_rfl) (by kernel_rfl) (by kernel_rfl) (dc_met os _)) ?_
  intro W base args ds gs before hval0 hW _ _ hL _
  have hval : ∀ (j : Nat) t v, Tryz.f3.params[j]? = some t → args[j]? = some v → Value.okWide Tryz.prog W .any base t v := hval0
  have hW' := hW
  obtain ⟨p, q, hA0, hV0, rfl, hfz, hnd⟩ := hW
  have hA : DataW.TrodAll enc Tryz.prog W 0 (fun _ => true) true Tryz.f3.params.toList args.toList ds p := hA0
  have hV : DataW.TrodVars enc Tryz.prog W (fun _ => true) ["loop.example/g00172/impl.errOtherForm", "loop.example/g00172/impl.modeWords"] gs q := hV0
  rw [Tryz.params3] at hA hval
  obtain ⟨v0, vs0, d0, ds0, p0, q0, hargs, rfl, rfl, h0, r0⟩ := trodAll_cons hA
  obtain ⟨rfl, rfl, rfl⟩ := trodAll_nil r0
  obtain rfl : args = #[v0] := by cases args; simp_all
  obtain ⟨a0, rfl, rfl, rfl, w0⟩ := open_string Tryz.underlying9 (hval 0 9 v0 rfl rfl) h0
  obtain ⟨hTa, hOf, hPe, hEr⟩ := dc_laid hL
  obtain ⟨g1, g2, hg12⟩ : ∃ g1 g2, gs = [g1, g2] := two_vars hV
  subst hg12
  clear hA0 hval0
  refine (walk a0 W hTa (Cm.cellLtTa hTa) hOf (by obtain ⟨_, _, h⟩ := hOf; exact cellLt h) hPe (by obtain ⟨⟨_, _, h⟩, _⟩ := hPe; exact cellLt h) (by obtain ⟨_, ⟨_, _, h⟩⟩ := hPe; exact cellLt h) hEr).mono fun e W' ⟨he, bel⟩ => ?_
  subst he
  exact ⟨_, rfl, _, _, _, [], _, _, hW', trodAll_mk1 (shut_bool Tryz.underlying4 _), (trodAll_cons_mk (shut_string Tryz.underlying9 w0) trodAll_mk0), Below.trodVars laidOut bel (by kernel_rfl) hV, bel.frame _, fun h => by cases h⟩

theorem over : Rows.fnExactDecodeCommitRow.holds Tryz.pinned (OpenSpec.ofChange Rows.fnExactDecodeCommitSpec) :=
  OpenClaim.holds_of_wide 3 Tryz.f3 rfl rfl rfl rfl rfl rfl rfl ⟨rfl, rfl, rfl, rfl, rfl⟩ rfl rfl rfl rfl rfl (by kernel_rfl) Tryz.func3 (by kernel_rfl)
    (of_decide_eq_true (by kernel_rfl)) (by unfold Func.isWrapper; first | (rw [if_pos (by decide +kernel)]; kernel_rfl) | (rw [if_neg (by decide +kernel)]; exact ⟨rfl, rfl⟩))
    (fun os started H enc _ => lifted os started H enc)

theorem proved : Rows.FnExactDecodeCommitCardSaid :=
  Claim7.holds_tied_plain_at .later [] [.data, .data, .data, .handle, .sentinel, .sentinel, .data, .sentinel] true _ true
    over (fun _ h => by cases h) (by kernel_rfl) (fun _ h => by cases h) fnExactDecodeCommit_row_tie rfl ⟨rfl, rfl⟩ (by kernel_rfl) rfl
    (fun f fn hf hfn => by
      obtain rfl : f = 3 := Option.some.inj ((show Tryz.prog.funcNamed "loop.example/g00172/laws.FnExactDecodeCommit" = some 3 by kernel_rfl).symm.trans hf) |>.symm
      obtain rfl : fn = Tryz.f3 := (Option.some.inj (Tryz.func3.symm.trans hfn)).symm
      exact ⟨by kernel_rfl, fun j t ht => by
        rw [Tryz.params3] at ht
        have hm : t ∈ [9] := by simpa using Array.mem_of_getElem? ht
        have hall : ([9].all fun u => !Tryz.prog.wantsStandIn u) = true := by kernel_rfl
        exact (show Tryz.prog.wantsStandIn t = false by simpa using List.all_eq_true.1 hall t hm)⟩)
    (by kernel_rfl)
end Go.Proofs.YtgidcncmicmggamGreatDoor.DcLaw
namespace Go.Proofs.YtgidcncmicmggamGreatDoor
theorem fnExactDecodeCommit_proved : Rows.FnExactDecodeCommitCardSaid := DcLaw.proved
end Go.Proofs.YtgidcncmicmggamGreatDoor
