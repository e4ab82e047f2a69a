/- The contract of spec.l6Uncommit. No statement is proved here. -/
import Derived.Test.YtijphomojljckaaGreatDoorRows
import Derived.Test.YtijphomojljckaaGreatDoorLemQ
import Derived.Test.YtijphomojljckaaGreatDoorComQ
import Derived.Test.YtijphomojljckaaGreatDoorHkTQ
import Derived.Test.YtijphomojljckaaGreatDoorLFLemQ
import Derived.Test.YtijphomojljckaaGreatDoorIterQ
import Derived.Test.YtijphomojljckaaGreatDoorIxBQ
import Derived.Test.YtijphomojljckaaGreatDoorCfSQ
import Derived.Test.YtijphomojljckaaGreatDoorDcLQ
import Derived.Test.YtijphomojljckaaGreatDoorDcUQ
import Derived.Test.YtijphomojljckaaGreatDoorRegRQ
import Derived.WalkKit
import Derived.ProofKit
import Derived.Below
import Derived.WalkSpells
import Derived.Maps.AppendAt
import Derived.Deep.RegionHeld
set_option linter.unusedVariables false
namespace Go.Proofs.YtijphomojljckaaGreatDoor.Dc
open Go.ChangeShapes Go.WideShapes Go.ChangeAt Go.RowKit
open Go.Proofs.YtijphomojljckaaGreatDoor.Te

/-- How l6Uncommit ends. -/
def UC (s : ByteArray) (w : World) (e : Ending) (w' : World) : Prop := Below w.heap.size w w' ∧
  ((dcS tI s ∧ ∃ v, e = .returned (.tuple #[.agg #[.string (sCm tI (spl s.data.toList)).1, v, .int .i64 (sCm tI (spl s.data.toList)).2.2.1, .string (sCm tI (spl s.data.toList)).2.2.2], .bool true]) ∧ w'.ownsRow w.heap.size 9 1 v (sCm tI (spl s.data.toList)).2.1.length ((sCm tI (spl s.data.toList)).2.1.map Value.string)) ∨
    (¬ dcS tI s ∧ ∃ t a n c tm no, e = .returned (.tuple #[.agg #[.string t, .slice a n c, .int .i64 tm, .string no], .bool false])))
theorem uc_few {s : ByteArray} (h : (spl s.data.toList).length < 3) : ¬ dcS tI s := fun q => by have := q.1.1; omega
/-- The state behind k lines. -/
structure UR (xs : List (List UInt8)) (k b : Nat) (v : Value) (wr : World) : Prop where
  blk : Rf wr (b + 1) [.string (cT xs k), v, .int .i64 (cM xs k), .string (cN xs k)]
  row : wr.ownsRow (b + 2) 9 1 v (cP xs k).length ((cP xs k).map Value.string)
theorem UR.below {xs : List (List UInt8)} {k b : Nat} {v : Value} {w w' : World} (h : UR xs k b v w) (hb : b + 1 < w.heap.size) (hB : Below w.heap.size w w') : UR xs k b v w' :=
  ⟨h.blk.below hb hB, h.row.kept (grownOfBelow hB none) (by cases hv : v.ownBlock <;> simp)⟩
theorem ownSet {w : World} {base b o : Nat} {e : TypeId} {s n : Nat} {v u : Value} {xs : List Value} (h : w.ownsRow base e s v n xs) (hb : b < base) : (w.setCell ⟨b, o, none⟩ u).ownsRow base e s v n xs :=
  ownsRow_setCell_below h (a := ⟨b, o, none⟩) hb u
theorem UR.next {xs : List (List UInt8)} {k b o : Nat} {v u : Value} {w : World} (h : UR xs k b v w) (ho : o < 4) (hv : ¬ o = 1)
    (hs : [Value.string (cT xs k), v, .int .i64 (cM xs k), .string (cN xs k)].set o u = [.string (cT xs (k + 1)), v, .int .i64 (cM xs (k + 1)), .string (cN xs (k + 1))]) (hp : cP xs (k + 1) = cP xs k) : UR xs (k + 1) b v (w.setCell ⟨b + 1, o, none⟩ u) :=
  ⟨by rw [← hs]; exact h.blk.set (o := o) (by simpa using ho) u, by rw [hp]; exact ownSet h.row (by omega)⟩
theorem UR.push {xs : List (List UInt8)} {k b : Nat} {v v' : Value} {x : ByteArray} {w' : World} (h : Rf w' (b + 1) [.string (cT xs k), v, .int .i64 (cM xs k), .string (cN xs k)]) (ho : w'.ownsRow (b + 2) 9 1 v' ((cP xs k).length + 1) ((cP xs k).map Value.string ++ [.string x]))
    (e : cT xs (k + 1) = cT xs k ∧ cP xs (k + 1) = cP xs k ++ [x] ∧ cM xs (k + 1) = cM xs k ∧ cN xs (k + 1) = cN xs k) : UR xs (k + 1) b v' (w'.setCell ⟨b + 1, 1, none⟩ v') :=
  ⟨by rw [e.1, e.2.2.1, e.2.2.2]; exact h.set (o := 1) (by simp) v', by rw [e.2.1, List.length_append, List.map_append]; exact ownSet ho (by omega)⟩
theorem cell_one (w : World) (t : TypeId) (x : Value) : ∀ (j : Nat) (u : Value), [x][j]? = some u → (w.alloc (.cells #[x] t)).cell? ((⟨w.heap.size, 0, none⟩ : Addr).add j) = some u := fun j u h => by
  have := Rs.new w #[x] t j u h
  rw [WideShapes.add_plain, Nat.zero_add]
  exact this
theorem setBelow {b o c : Nat} {w w' : World} {v : Value} (h : Below b w w') (hc : b ≤ c) : Below b w (w'.setCell ⟨c, o, none⟩ v) := h.setCell (p := ⟨c, o, none⟩) hc v
theorem Hid.mk4 {p : Prop} (h : p) : Hid p := h
theorem cases4 (k n : Nat) (h : 3 ≤ n) (hk : k < n) : k = 0 ∨ (0 < k ∧ k + 2 < n) ∨ k + 2 = n ∨ k + 1 = n := by omega
theorem Rf.keptBy {w w' : World} {b : Nat} {vs : List Value} {row : Option Nat} (h : Rf w b vs) (hg : w.grownBy w' row) (hb : b < w.heap.size) (hne : row ≠ some b) : Rf w' b vs := by
  have e := hg.block b hb (fun q => hne q.symm)
  refine ⟨fun k v hk => ?_, fun k => ?_⟩
  · have := h.at_ k v hk
    unfold World.cell? at this ⊢
    rw [e]; exact this
  · have := h.fz k
    unfold World.frozen? at this ⊢
    rw [e]; exact this
set_option maxRecDepth 20000 in
set_option maxHeartbeats 8000000 in
theorem l6UncommitC (s : ByteArray) (w : World) (hs : s.size ≤ 1048576) :
    Calls Tryz.prog 28 #[.string s] w fun e w' => UC s w e w' := by
  have hSp := fun w => l1Split s w hs
  have hsm := lines_small s hs
  have hll := lines_le s
  have hls := fun k hk => Nat.le_trans (line_size s k hk) hs
  obtain ⟨i0, hi, hz0, hz1, hz2⟩ := info_parts infoString
  have hxT : ∀ k, k < (linesOf s).length → (spl s.data.toList).getD k [] = ((linesOf s).getD k ByteArray.empty).data.toList := fun k hk => by
    have hk' : k < (spl s.data.toList).length := by simpa [linesOf, linesFrom] using hk
    simp [linesOf, linesFrom, List.getD, hk', mkB_data]
  have hxl : (linesOf s).length = (spl s.data.toList).length := by simp [linesOf, linesFrom]
  have hFew : (spl s.data.toList).length < 3 → Hid (¬ dcS tI s) := fun h => uc_few h
  have hBad : ¬ sOk tI (spl s.data.toList) → Hid (¬ dcS tI s) := fun h => fun q => h q.1
  have hEnd : 3 ≤ (spl s.data.toList).length → cG (spl s.data.toList) (spl s.data.toList).length → sOk tI (spl s.data.toList) ∧ sCm tI (spl s.data.toList) = _ := fun h3 h => c_all h3 h
  have hUC : ∀ e w', UC s w e w' = UC s w e w' := fun _ _ => rfl
  conv at hUC => intro e w'; rhs; unfold UC dcS
  conv at hBad => rhs; unfold dcS
  conv at hFew => rhs; unfold dcS
  obtain ⟨xs, hxs⟩ : ∃ xs, spl s.data.toList = xs := ⟨_, rfl⟩
  simp only [hxs] at hxT hxl hFew hBad hEnd hUC
  obtain ⟨T, hT⟩ : ∃ T, linesOf s = T := ⟨_, rfl⟩
  rw [hT] at hsm hll hxl
  simp only [hT] at hSp hls hxT
  have hTl : T.length ≤ 1048576 := by omega
  clear hT hxs hll
  have HX : Hid (T.length = xs.length) := hxl
  rw [← hxl] at hFew
  clear hxl
  simp only [hUC]
  clear hUC
  obtain ⟨b, hb⟩ : ∃ b, w.heap.size = b := ⟨_, rfl⟩
  obtain ⟨W1, hW1⟩ : ∃ W, (w.alloc (.cells #[.string ⟨#[]⟩, .slice none 0 0, .int .i64 0, .string ⟨#[]⟩] 34)).alloc (.cells #[.string ⟨#[]⟩, .slice none 0 0, .int .i64 0, .string ⟨#[]⟩] 34) = W := ⟨_, rfl⟩
  have b0 : Below b w W1 := by rw [← hW1, ← hb]; exact (allocBelow _ _).trans ((allocBelow _ _).mono (by simp))
  have z0 : W1.heap.size = b + 2 := by rw [← hW1, ← hb]; simp
  have r0 : Rf W1 b [.string ⟨#[]⟩, .slice none 0 0, .int .i64 0, .string ⟨#[]⟩] := by rw [← hW1, ← hb]; exact (Rf.new w #[.string ⟨#[]⟩, .slice none 0 0, .int .i64 0, .string ⟨#[]⟩] _).below (by simp) (allocBelow _ _)
  have v0 : Rf W1 (b + 1) [.string ⟨#[]⟩, .slice none 0 0, .int .i64 0, .string ⟨#[]⟩] := by
    rw [← hW1, ← hb]
    have := Rf.new (w.alloc (.cells #[.string ⟨#[]⟩, .slice none 0 0, .int .i64 0, .string ⟨#[]⟩] 34)) #[.string ⟨#[]⟩, .slice none 0 0, .int .i64 0, .string ⟨#[]⟩] 34
    rwa [World.size_alloc] at this
  have c0 := v0.at_ 0 _ rfl
  have c1 := v0.at_ 1 _ rfl
  have c2 := v0.at_ 2 _ rfl
  have c3 := v0.at_ 3 _ rfl
  have f0 := v0.fz 0
  have f1 := v0.fz 1
  have f2 := v0.fz 2
  have f3 := v0.fz 3
  obtain ⟨W2, hW2⟩ : ∃ W, (((W1.setCell ⟨b + 1, 0, none⟩ (.string ⟨#[]⟩)).setCell ⟨b + 1, 1, none⟩ (.slice none 0 0)).setCell ⟨b + 1, 2, none⟩ (.int .i64 0)).setCell ⟨b + 1, 3, none⟩ (.string ⟨#[]⟩) = W := ⟨_, rfl⟩
  have HZ : Hid (W2.heap.size = b + 2) := by show _ = _; rw [← hW2]; simpa using z0
  replace b0 : Below b w W2 := by rw [← hW2]; exact setBelow (setBelow (setBelow (setBelow b0 (by omega)) (by omega)) (by omega)) (by omega)
  replace r0 : Rf W2 b [.string ⟨#[]⟩, .slice none 0 0, .int .i64 0, .string ⟨#[]⟩] := by rw [← hW2]; exact (((r0.other (by omega) _).other (by omega) _).other (by omega) _).other (by omega) _
  replace v0 : Rf W2 (b + 1) [.string ⟨#[]⟩, .slice none 0 0, .int .i64 0, .string ⟨#[]⟩] := by rw [← hW2]; exact (((v0.set (o := 0) (by simp) _).set (o := 1) (by simp) _).set (o := 2) (by simp) _).set (o := 3) (by simp) _
  have u0 : UR xs 0 b (.slice none 0 0) W2 := by
    obtain ⟨e1, e2, e3, e4, _⟩ := c_zero xs
    refine ⟨?_, ?_⟩
    · rw [e1, e3, e4]; exact v0
    · rw [e2]; exact World.ownsRow_nil _ _ _ _
  clear z0 v0
  go_enter Tryz.func28, Tryz.ntmps28
  go_wp2_with fail
  refine (hSp _).mono ?_
  rintro e w1 ⟨vT, rfl, oT, b1⟩
  have hgT : ∀ g, vT.ownBlock = some g → b + 2 ≤ g := fun g hg => by
    have h1 := (oT.lt g hg).1
    have h2 := HZ.out
    omega
  obtain ⟨aT, cTT, rfl, sT, -⟩ := SS_of_row oT rfl hsm
  have hgA : ∀ g off, aT = some ⟨g, off, none⟩ → b + 2 ≤ g := fun g off e => hgT g (by subst e; rfl)
  have B1 : Below b w w1 := b0.trans (b1.mono (by have := HZ.out; omega))
  have R1 := r0.below (by have := HZ.out; omega) b1
  have U1 := u0.below (by have := HZ.out; omega) b1
  have Z1 : b + 2 ≤ w1.heap.size := by
    have h1 := b1.size
    have h2 := HZ.out
    omega
  clear hSp b0 b1 hW1 hW2 oT r0 u0 HZ hgT c0 c1 c2 c3 f0 f1 f2 f3
  by_cases h3 : T.length < 3
  · have q3 : (T.length : Int) < 3 := by omega
    have HD := hFew h3
    obtain ⟨la, lc, hv⟩ : ∃ a c, (Value.slice none 0 0) = .slice a (cP xs 0).length c := ⟨none, 0, by rw [(c_zero xs).2.1]; rfl⟩
    rw [hv] at U1
    have U := U1
    have R := R1
    have B := B1
    clear hFew hBad hEnd hxT hls sT hgA hv U1 R1 B1
    have c0 := U.blk.at_ 0 _ rfl
    have c1 := U.blk.at_ 1 _ rfl
    have c2 := U.blk.at_ 2 _ rfl
    have c3 := U.blk.at_ 3 _ rfl
    have d0 := R.at_ 0 _ rfl
    have d1 := R.at_ 1 _ rfl
    have d2 := R.at_ 2 _ rfl
    have d3 := R.at_ 3 _ rfl
    have f0 := R.fz 0
    have f1 := R.fz 1
    have f2 := R.fz 2
    have f3 := R.fz 3
    have HB : ∀ x0 x1 x2 x3, Hid (Below b w ((((w1.setCell ⟨b, 0, none⟩ x0).setCell ⟨b, 1, none⟩ x1).setCell ⟨b, 2, none⟩ x2).setCell ⟨b, 3, none⟩ x3)) := fun _ _ _ _ => setBelow (setBelow (setBelow (setBelow B (Nat.le_refl _)) (Nat.le_refl _)) (Nat.le_refl _)) (Nat.le_refl _)
    clear U R B
    obtain ⟨cT0, hcT⟩ : ∃ y, cT xs 0 = y := ⟨_, rfl⟩
    obtain ⟨cM0, hcM⟩ : ∃ y, cM xs 0 = y := ⟨_, rfl⟩
    obtain ⟨cN0, hcN⟩ : ∃ y, cN xs 0 = y := ⟨_, rfl⟩
    obtain ⟨cL0, hcL⟩ : ∃ y, (cP xs 0).length = y := ⟨_, rfl⟩
    rw [hcT] at c0
    rw [hcL] at c1
    rw [hcM] at c2
    rw [hcN] at c3
    clear hcT hcM hcN hcL
    go_wp2
    refine bodyPost_ret (v := .tuple #[.agg #[.string cT0, .slice la cL0 lc, .int .i64 cM0, .string cN0], .bool false]) (by simp [results, Tryz.results28, go_sem, d0, d1, d2, d3]) rfl ?_
    rw [hb]
    exact ⟨(HB _ _ _ _).out, .inr ⟨HD.out, _, _, _, _, _, _, rfl⟩⟩
  have q3 : ¬ (T.length : Int) < 3 := by omega
  have H3 : Hid (3 ≤ xs.length) := by show _ ≤ _; rw [← HX.out]; omega
  have h3' : 3 ≤ T.length := by omega
  clear hFew h3
  have G0 : Hid (cG xs 0) := (c_zero xs).2.2.2.2
  have ePT := beq_bytes_false (show ¬ wPar = wTree by decide)
  have eMT := beq_bytes_false (show ¬ wTime = wTree by decide)
  have eMP := beq_bytes_false (show ¬ wTime = wPar by decide)
  have eNT := beq_bytes_false (show ¬ wNote = wTree by decide)
  have eNP := beq_bytes_false (show ¬ wNote = wPar by decide)
  have eNM := beq_bytes_false (show ¬ wNote = wTime by decide)
  have eTT := beq_bytes_true (show wTree = wTree by rfl)
  have ePP := beq_bytes_true (show wPar = wPar by rfl)
  have eMM := beq_bytes_true (show wTime = wTime by rfl)
  unfold wTree wPar wTime wNote at *
  go_wp2
  go_loopw [7, 8, 9, 10, 11, 12, 13, 14] (fun i _l _e _wd _tx _ok _t _r wr => ∃ (k : Nat) (v : Value), k ≤ T.length ∧ i = .int .i64 k ∧ Hid (cG xs k) ∧ UR xs k b v wr ∧ Rf wr b [.string ⟨#[]⟩, .slice none 0 0, .int .i64 0, .string ⟨#[]⟩] ∧ Below b w wr ∧ b + 2 ≤ wr.heap.size ∧ SS wr aT T ∧ ∀ g off, aT = some ⟨g, off, none⟩ → v.ownBlock ≠ some g) (fun i _ _ _ _ _ _ _ _ => T.length - (intOf i).toNat)
  case atStart => exact ⟨0, .slice none 0 0, Nat.zero_le _, rfl, G0, U1, R1, B1, Z1, sT, fun g off _ h => by simp [Value.ownBlock] at h⟩
  case round =>
    obtain ⟨k, v, hk, rfl, hG, U, R, B, Z, hS, hne⟩ := hrel
    clear G0 U1 R1 B1 Z1 sT
    obtain ⟨la, lc, hv⟩ : ∃ a c, v = .slice a (cP xs k).length c := by
      rcases U.row.2 with ⟨h', h0'⟩ | ⟨g, c, cur, h', _⟩
      · exact ⟨none, 0, by rw [h', h0']⟩
      · exact ⟨_, _, h'⟩
    subst hv
    by_cases hlt : k < T.length
    · have qk : (k : Int) < (T.length : Int) := by omega
      obtain ⟨g, off, e, hg, dl⟩ := hS.2 k hlt
      have hx := hxT k hlt
      have hxz := hls k hlt
      clear hxT hls hEnd
      obtain ⟨x, hxe⟩ : ∃ x, T.getD k ByteArray.empty = x := ⟨_, rfl⟩
      rw [hxe] at dl hx hxz
      clear hxe
      have hU := fun w => l6UnlineC x w hxz
      have hO := fun wd => st_open (x := x) (wd := wd)
      have hM := fun wd => st_miss (x := x) (wd := wd)
      have hH := fun wd v => st_hit (x := x) (wd := wd) (v := v)
      have hYz := Nat.le_trans (unT_size x) hxz
      rw [← hx] at hO hM hH
      obtain ⟨Y, hY⟩ : ∃ Y, unT x = Y := ⟨_, rfl⟩
      obtain ⟨E, hE⟩ : ∃ E, endB x = E := ⟨_, rfl⟩
      rw [hY, hE] at hU
      rw [hY] at hYz
      simp only [hY, hE] at hO hM hH
      clear hY hE hx
      subst e
      rcases cases4 k T.length h3' hlt with hk4 | hk4 | hk4 | hk4
      · have qa : ((k : Int) == 0) = true := by simp; omega
        have qb : ((k : Int) == (T.length : Int) - 2) = false := by simp; omega
        have qc : ((k : Int) == (T.length : Int) - 1) = false := by simp; omega
        have HK := Hid.mk4 hk4
        clear hk4
        have hW : wOf xs.length k = wTree := by rw [HK.out]; exact w_tree H3.out
        have hO' := hO wTree
        have hM' := hM wTree
        have hH' := hH wTree
        rw [← hW] at hO' hM' hH'
        have bad : stW (wOf xs.length k).data.toList (xs.getD k []) = none → Hid _ := fun h => hBad (cG_bad (by rw [← HX.out]; exact hlt) h)
        have step : ∀ v : ByteArray, stW (wOf xs.length k).data.toList (xs.getD k []) = some v.data.toList → cT xs (k + 1) = v ∧ cP xs (k + 1) = cP xs k ∧ cM xs (k + 1) = cM xs k ∧ cN xs (k + 1) = cN xs k := fun v h => by obtain rfl := HK.out; exact step_tree H3.out h
        have hA := fun w => l6AfterC Y wTree w (by decide)
        rw [hW] at hM' hH'
        clear hO hM hH
        unfold wTree at hA
        go_wp2_with fail
        refine (hU _).mono ?_; rintro e w2' ⟨rfl, rfl⟩
        clear hU
        go_wp2_with fail
        refine (hA _).mono ?_; rintro e w2 ⟨b2, hAF⟩
        replace U := U.below (by omega) b2
        replace R := R.below (by omega) b2
        replace B : Below b w w2 := B.trans (b2.mono (by omega))
        replace hS := hS.below b2
        have Z2 : b + 2 ≤ w2.heap.size := Nat.le_trans Z b2.size
        clear hA b2 Z dl hg
        rcases hAF with ⟨x1, rfl, hx1⟩ | ⟨rfl, hx1⟩
        rotate_left
        · have HD := bad (by
            cases E with
            | true => rw [hW]; exact hM' rfl hx1
            | false => exact hO' rfl)
          clear bad hO' hM' hH' hx1 step hBad hW hS hG hne hgA
          cases E
          · have c0 := U.blk.at_ 0 _ rfl
            have c1 := U.blk.at_ 1 _ rfl
            have c2 := U.blk.at_ 2 _ rfl
            have c3 := U.blk.at_ 3 _ rfl
            have d0 := R.at_ 0 _ rfl
            have d1 := R.at_ 1 _ rfl
            have d2 := R.at_ 2 _ rfl
            have d3 := R.at_ 3 _ rfl
            have f0 := R.fz 0
            have f1 := R.fz 1
            have f2 := R.fz 2
            have f3 := R.fz 3
            have HB : ∀ x0 x1 x2 x3, Hid (Below b w ((((w2.setCell ⟨b, 0, none⟩ x0).setCell ⟨b, 1, none⟩ x1).setCell ⟨b, 2, none⟩ x2).setCell ⟨b, 3, none⟩ x3)) := fun _ _ _ _ => setBelow (setBelow (setBelow (setBelow B (Nat.le_refl _)) (Nat.le_refl _)) (Nat.le_refl _)) (Nat.le_refl _)
            clear U R B
            obtain ⟨cT0, hcT⟩ : ∃ y, cT xs k = y := ⟨_, rfl⟩
            obtain ⟨cM0, hcM⟩ : ∃ y, cM xs k = y := ⟨_, rfl⟩
            obtain ⟨cN0, hcN⟩ : ∃ y, cN xs k = y := ⟨_, rfl⟩
            obtain ⟨cL0, hcL⟩ : ∃ y, (cP xs k).length = y := ⟨_, rfl⟩
            rw [hcT] at c0
            rw [hcL] at c1
            rw [hcM] at c2
            rw [hcN] at c3
            clear hcT hcM hcN hcL
            go_wp2
            refine bodyPost_ret (v := .tuple #[.agg #[.string cT0, .slice la cL0 lc, .int .i64 cM0, .string cN0], .bool false]) (by simp [results, Tryz.results28, go_sem, d0, d1, d2, d3]) rfl ?_
            rw [hb]
            exact ⟨(HB _ _ _ _).out, .inr ⟨HD.out, _, _, _, _, _, _, rfl⟩⟩
          · have c0 := U.blk.at_ 0 _ rfl
            have c1 := U.blk.at_ 1 _ rfl
            have c2 := U.blk.at_ 2 _ rfl
            have c3 := U.blk.at_ 3 _ rfl
            have d0 := R.at_ 0 _ rfl
            have d1 := R.at_ 1 _ rfl
            have d2 := R.at_ 2 _ rfl
            have d3 := R.at_ 3 _ rfl
            have f0 := R.fz 0
            have f1 := R.fz 1
            have f2 := R.fz 2
            have f3 := R.fz 3
            have HB : ∀ x0 x1 x2 x3, Hid (Below b w ((((w2.setCell ⟨b, 0, none⟩ x0).setCell ⟨b, 1, none⟩ x1).setCell ⟨b, 2, none⟩ x2).setCell ⟨b, 3, none⟩ x3)) := fun _ _ _ _ => setBelow (setBelow (setBelow (setBelow B (Nat.le_refl _)) (Nat.le_refl _)) (Nat.le_refl _)) (Nat.le_refl _)
            clear U R B
            obtain ⟨cT0, hcT⟩ : ∃ y, cT xs k = y := ⟨_, rfl⟩
            obtain ⟨cM0, hcM⟩ : ∃ y, cM xs k = y := ⟨_, rfl⟩
            obtain ⟨cN0, hcN⟩ : ∃ y, cN xs k = y := ⟨_, rfl⟩
            obtain ⟨cL0, hcL⟩ : ∃ y, (cP xs k).length = y := ⟨_, rfl⟩
            rw [hcT] at c0
            rw [hcL] at c1
            rw [hcM] at c2
            rw [hcN] at c3
            clear hcT hcM hcN hcL
            go_wp2
            refine bodyPost_ret (v := .tuple #[.agg #[.string cT0, .slice la cL0 lc, .int .i64 cM0, .string cN0], .bool false]) (by simp [results, Tryz.results28, go_sem, d0, d1, d2, d3]) rfl ?_
            rw [hb]
            exact ⟨(HB _ _ _ _).out, .inr ⟨HD.out, _, _, _, _, _, _, rfl⟩⟩
        cases E with
        | false =>
          have HD := bad (hO' rfl)
          clear bad hO' hM' hH' hx1 step hBad hW hS hG hne hgA
          have c0 := U.blk.at_ 0 _ rfl
          have c1 := U.blk.at_ 1 _ rfl
          have c2 := U.blk.at_ 2 _ rfl
          have c3 := U.blk.at_ 3 _ rfl
          have d0 := R.at_ 0 _ rfl
          have d1 := R.at_ 1 _ rfl
          have d2 := R.at_ 2 _ rfl
          have d3 := R.at_ 3 _ rfl
          have f0 := R.fz 0
          have f1 := R.fz 1
          have f2 := R.fz 2
          have f3 := R.fz 3
          have HB : ∀ x0 x1 x2 x3, Hid (Below b w ((((w2.setCell ⟨b, 0, none⟩ x0).setCell ⟨b, 1, none⟩ x1).setCell ⟨b, 2, none⟩ x2).setCell ⟨b, 3, none⟩ x3)) := fun _ _ _ _ => setBelow (setBelow (setBelow (setBelow B (Nat.le_refl _)) (Nat.le_refl _)) (Nat.le_refl _)) (Nat.le_refl _)
          clear U R B
          obtain ⟨cT0, hcT⟩ : ∃ y, cT xs k = y := ⟨_, rfl⟩
          obtain ⟨cM0, hcM⟩ : ∃ y, cM xs k = y := ⟨_, rfl⟩
          obtain ⟨cN0, hcN⟩ : ∃ y, cN xs k = y := ⟨_, rfl⟩
          obtain ⟨cL0, hcL⟩ : ∃ y, (cP xs k).length = y := ⟨_, rfl⟩
          rw [hcT] at c0
          rw [hcL] at c1
          rw [hcM] at c2
          rw [hcN] at c3
          clear hcT hcM hcN hcL
          go_wp2
          refine bodyPost_ret (v := .tuple #[.agg #[.string cT0, .slice la cL0 lc, .int .i64 cM0, .string cN0], .bool false]) (by simp [results, Tryz.results28, go_sem, d0, d1, d2, d3]) rfl ?_
          rw [hb]
          exact ⟨(HB _ _ _ _).out, .inr ⟨HD.out, _, _, _, _, _, _, rfl⟩⟩
        | true =>
          have hst := hH' x1 rfl hx1
          rw [← hW] at hst
          have hxs1 : x1.size ≤ 1048576 := by
            have := congrArg List.length hx1
            simp only [List.length_append, List.length_cons, List.length_nil, size_eq] at this
            omega
          clear bad hO' hM' hH' hx1 hW
          obtain ⟨e1, e2, e3, e4⟩ := step x1 hst
          have G1 : Hid (cG xs (k + 1)) := cG_step H3.out hG.out hst (fun h => by rw [← HX.out] at h; have := HK.out; omega)
          have UU : Hid (UR xs (k + 1) b (.slice la (cP xs k).length lc) (w2.setCell ⟨b + 1, 0, none⟩ (.string x1))) := UR.next U (by decide) (by decide) (by simp [e1, e3, e4]) e2
          have RR : Hid (Rf (w2.setCell ⟨b + 1, 0, none⟩ (.string x1)) b _) := R.other (by omega) _
          have BB : Hid (Below b w (w2.setCell ⟨b + 1, 0, none⟩ (.string x1))) := setBelow B (by omega)
          have SX : Hid (SS (w2.setCell ⟨b + 1, 0, none⟩ (.string x1)) (some ⟨g, off, none⟩) T) := SS.setOther hS (fun g1 o1 e => by have := hgA g1 o1 e; omega)
          have ZZ : b + 2 ≤ (w2.setCell ⟨b + 1, 0, none⟩ (.string x1)).heap.size := by simpa using Z2
          have c0 := U.blk.at_ 0 _ rfl
          have f0 := U.blk.fz 0
          clear step hst e1 e2 e3 e4 U R B hS hG hBad Z2
          go_wp2
          go_roundw
          case rel => exact ⟨k + 1, _, by omega, by go_num, G1, UU.out, RR.out, BB.out, ZZ, SX.out, hne⟩
          case measure => first | (simp [intOf]; omega) | simp [intOf]
      · have qa : ((k : Int) == 0) = false := by simp; omega
        have qb : ((k : Int) == (T.length : Int) - 2) = false := by simp; omega
        have qc : ((k : Int) == (T.length : Int) - 1) = false := by simp; omega
        have HK := Hid.mk4 hk4
        clear hk4
        have hW : wOf xs.length k = wPar := w_par HK.out.1 (by rw [← HX.out]; exact HK.out.2)
        have hO' := hO wPar
        have hM' := hM wPar
        have hH' := hH wPar
        rw [← hW] at hO' hM' hH'
        have bad : stW (wOf xs.length k).data.toList (xs.getD k []) = none → Hid _ := fun h => hBad (cG_bad (by rw [← HX.out]; exact hlt) h)
        have step : ∀ v : ByteArray, stW (wOf xs.length k).data.toList (xs.getD k []) = some v.data.toList → cT xs (k + 1) = cT xs k ∧ cP xs (k + 1) = cP xs k ++ [v] ∧ cM xs (k + 1) = cM xs k ∧ cN xs (k + 1) = cN xs k := fun v h => step_par HK.out.1 (by rw [← HX.out]; exact HK.out.2) h
        have hA := fun w => l6AfterC Y wPar w (by decide)
        rw [hW] at hM' hH'
        clear hO hM hH
        unfold wPar at hA
        go_wp2_with fail
        refine (hU _).mono ?_; rintro e w2' ⟨rfl, rfl⟩
        clear hU
        go_wp2_with fail
        refine (hA _).mono ?_; rintro e w2 ⟨b2, hAF⟩
        replace U := U.below (by omega) b2
        replace R := R.below (by omega) b2
        replace B : Below b w w2 := B.trans (b2.mono (by omega))
        replace hS := hS.below b2
        have Z2 : b + 2 ≤ w2.heap.size := Nat.le_trans Z b2.size
        clear hA b2 Z dl hg
        rcases hAF with ⟨x1, rfl, hx1⟩ | ⟨rfl, hx1⟩
        rotate_left
        · have HD := bad (by
            cases E with
            | true => rw [hW]; exact hM' rfl hx1
            | false => exact hO' rfl)
          clear bad hO' hM' hH' hx1 step hBad hW hS hG hne hgA
          cases E
          · have c0 := U.blk.at_ 0 _ rfl
            have c1 := U.blk.at_ 1 _ rfl
            have c2 := U.blk.at_ 2 _ rfl
            have c3 := U.blk.at_ 3 _ rfl
            have d0 := R.at_ 0 _ rfl
            have d1 := R.at_ 1 _ rfl
            have d2 := R.at_ 2 _ rfl
            have d3 := R.at_ 3 _ rfl
            have f0 := R.fz 0
            have f1 := R.fz 1
            have f2 := R.fz 2
            have f3 := R.fz 3
            have HB : ∀ x0 x1 x2 x3, Hid (Below b w ((((w2.setCell ⟨b, 0, none⟩ x0).setCell ⟨b, 1, none⟩ x1).setCell ⟨b, 2, none⟩ x2).setCell ⟨b, 3, none⟩ x3)) := fun _ _ _ _ => setBelow (setBelow (setBelow (setBelow B (Nat.le_refl _)) (Nat.le_refl _)) (Nat.le_refl _)) (Nat.le_refl _)
            clear U R B
            obtain ⟨cT0, hcT⟩ : ∃ y, cT xs k = y := ⟨_, rfl⟩
            obtain ⟨cM0, hcM⟩ : ∃ y, cM xs k = y := ⟨_, rfl⟩
            obtain ⟨cN0, hcN⟩ : ∃ y, cN xs k = y := ⟨_, rfl⟩
            obtain ⟨cL0, hcL⟩ : ∃ y, (cP xs k).length = y := ⟨_, rfl⟩
            rw [hcT] at c0
            rw [hcL] at c1
            rw [hcM] at c2
            rw [hcN] at c3
            clear hcT hcM hcN hcL
            go_wp2
            refine bodyPost_ret (v := .tuple #[.agg #[.string cT0, .slice la cL0 lc, .int .i64 cM0, .string cN0], .bool false]) (by simp [results, Tryz.results28, go_sem, d0, d1, d2, d3]) rfl ?_
            rw [hb]
            exact ⟨(HB _ _ _ _).out, .inr ⟨HD.out, _, _, _, _, _, _, rfl⟩⟩
          · have c0 := U.blk.at_ 0 _ rfl
            have c1 := U.blk.at_ 1 _ rfl
            have c2 := U.blk.at_ 2 _ rfl
            have c3 := U.blk.at_ 3 _ rfl
            have d0 := R.at_ 0 _ rfl
            have d1 := R.at_ 1 _ rfl
            have d2 := R.at_ 2 _ rfl
            have d3 := R.at_ 3 _ rfl
            have f0 := R.fz 0
            have f1 := R.fz 1
            have f2 := R.fz 2
            have f3 := R.fz 3
            have HB : ∀ x0 x1 x2 x3, Hid (Below b w ((((w2.setCell ⟨b, 0, none⟩ x0).setCell ⟨b, 1, none⟩ x1).setCell ⟨b, 2, none⟩ x2).setCell ⟨b, 3, none⟩ x3)) := fun _ _ _ _ => setBelow (setBelow (setBelow (setBelow B (Nat.le_refl _)) (Nat.le_refl _)) (Nat.le_refl _)) (Nat.le_refl _)
            clear U R B
            obtain ⟨cT0, hcT⟩ : ∃ y, cT xs k = y := ⟨_, rfl⟩
            obtain ⟨cM0, hcM⟩ : ∃ y, cM xs k = y := ⟨_, rfl⟩
            obtain ⟨cN0, hcN⟩ : ∃ y, cN xs k = y := ⟨_, rfl⟩
            obtain ⟨cL0, hcL⟩ : ∃ y, (cP xs k).length = y := ⟨_, rfl⟩
            rw [hcT] at c0
            rw [hcL] at c1
            rw [hcM] at c2
            rw [hcN] at c3
            clear hcT hcM hcN hcL
            go_wp2
            refine bodyPost_ret (v := .tuple #[.agg #[.string cT0, .slice la cL0 lc, .int .i64 cM0, .string cN0], .bool false]) (by simp [results, Tryz.results28, go_sem, d0, d1, d2, d3]) rfl ?_
            rw [hb]
            exact ⟨(HB _ _ _ _).out, .inr ⟨HD.out, _, _, _, _, _, _, rfl⟩⟩
        cases E with
        | false =>
          have HD := bad (hO' rfl)
          clear bad hO' hM' hH' hx1 step hBad hW hS hG hne hgA
          have c0 := U.blk.at_ 0 _ rfl
          have c1 := U.blk.at_ 1 _ rfl
          have c2 := U.blk.at_ 2 _ rfl
          have c3 := U.blk.at_ 3 _ rfl
          have d0 := R.at_ 0 _ rfl
          have d1 := R.at_ 1 _ rfl
          have d2 := R.at_ 2 _ rfl
          have d3 := R.at_ 3 _ rfl
          have f0 := R.fz 0
          have f1 := R.fz 1
          have f2 := R.fz 2
          have f3 := R.fz 3
          have HB : ∀ x0 x1 x2 x3, Hid (Below b w ((((w2.setCell ⟨b, 0, none⟩ x0).setCell ⟨b, 1, none⟩ x1).setCell ⟨b, 2, none⟩ x2).setCell ⟨b, 3, none⟩ x3)) := fun _ _ _ _ => setBelow (setBelow (setBelow (setBelow B (Nat.le_refl _)) (Nat.le_refl _)) (Nat.le_refl _)) (Nat.le_refl _)
          clear U R B
          obtain ⟨cT0, hcT⟩ : ∃ y, cT xs k = y := ⟨_, rfl⟩
          obtain ⟨cM0, hcM⟩ : ∃ y, cM xs k = y := ⟨_, rfl⟩
          obtain ⟨cN0, hcN⟩ : ∃ y, cN xs k = y := ⟨_, rfl⟩
          obtain ⟨cL0, hcL⟩ : ∃ y, (cP xs k).length = y := ⟨_, rfl⟩
          rw [hcT] at c0
          rw [hcL] at c1
          rw [hcM] at c2
          rw [hcN] at c3
          clear hcT hcM hcN hcL
          go_wp2
          refine bodyPost_ret (v := .tuple #[.agg #[.string cT0, .slice la cL0 lc, .int .i64 cM0, .string cN0], .bool false]) (by simp [results, Tryz.results28, go_sem, d0, d1, d2, d3]) rfl ?_
          rw [hb]
          exact ⟨(HB _ _ _ _).out, .inr ⟨HD.out, _, _, _, _, _, _, rfl⟩⟩
        | true =>
          have hst := hH' x1 rfl hx1
          rw [← hW] at hst
          have hxs1 : x1.size ≤ 1048576 := by
            have := congrArg List.length hx1
            simp only [List.length_append, List.length_cons, List.length_nil, size_eq] at this
            omega
          clear bad hO' hM' hH' hx1 hW
          have est := step x1 hst
          have G1 : Hid (cG xs (k + 1)) := cG_step H3.out hG.out hst (fun h => by rw [← HX.out] at h; have := HK.out; omega)
          have hPl : (cP xs k).length ≤ 1048576 := by have := cP_len xs k; rw [← HX.out] at this; omega
          have c0 := U.blk.at_ 1 _ rfl
          have own2 := U.row
          clear step hst hBad hG
          go_wp2_with (at_builtin; refine wpList_append_own_at _ rfl (.tmp 69) (.tmp 71) 32 rfl (b + 2) 9 i0 (.string ByteArray.empty) 1 16 Tryz.underlying32 hi hz0 hz1 hz2 rfl (by decide) (.slice la (cP xs k).length lc) _ _ rfl (own2.alloc _) ⟨w2.heap.size, 0, none⟩ 1 1 [.string x1] rfl rfl (cell_one _ _ _) (by simp [Value.oneCell']) (by unfold maxLen; omega) (by omega) (by simp; omega) ?_; intro v' w4 hown' hgrow _ hwhere; obtain ⟨g', cap', rfl⟩ := ownsRow_succ hown'; have hrow : (Value.slice la (cP xs k).length lc).ownBlock ≠ some (b + 1) := fun q => absurd (own2.lt (b + 1) q).1 (by omega); have hrow0 : (Value.slice la (cP xs k).length lc).ownBlock ≠ some b := fun q => absurd (own2.lt b q).1 (by omega); have U4 : Rf w4 (b + 1) _ := Rf.keptBy (U.blk.below (by omega) (allocBelow w2 (.cells #[.string x1] 9))) hgrow (by simp; omega) hrow; have c4 := U4.at_ 1 _ rfl; have f4 := U4.fz 1)
          have R4 := Rf.keptBy (R.below (by omega) (allocBelow w2 (.cells #[.string x1] 9))) hgrow (by simp; omega) hrow0
          have B4 : Below b w w4 := (B.alloc (by omega) _).grown hgrow (by simp; omega) (fun j hj => by have := (own2.lt j hj).1; omega)
          have S4 := SS.keptBy (hS.below (allocBelow w2 (.cells #[.string x1] 9))) hgrow (fun g1 o1 e q => hne g1 o1 e q)
          have Z4 : b + 2 ≤ w4.heap.size := by have := hgrow.size; simp at this; omega
          have hgS : ∀ g1 o1, some (⟨g, off, none⟩ : Addr) = some ⟨g1, o1, none⟩ → g1 < w2.heap.size := fun g1 o1 e => by
            obtain ⟨bb, off', e', hb', _⟩ := hS.2 k hlt
            simp only [Option.some.injEq, Addr.mk.injEq, and_true] at e e'
            omega
          have hne4 : ∀ g1 o1, some (⟨g, off, none⟩ : Addr) = some ⟨g1, o1, none⟩ → (Value.slice (some ⟨g', 0, none⟩) ((cP xs k).length + 1) cap').ownBlock ≠ some g1 := fun g1 o1 e q => by
            rcases hwhere with h1 | h1
            · exact hne g1 o1 e (h1 ▸ q)
            · rw [h1] at q
              have := hgS g1 o1 e
              simp only [Option.some.injEq, World.size_alloc] at q
              omega
          have UU : Hid (UR xs (k + 1) b (.slice (some ⟨g', 0, none⟩) ((cP xs k).length + 1) cap') (w4.setCell ⟨b + 1, 1, none⟩ (.slice (some ⟨g', 0, none⟩) ((cP xs k).length + 1) cap'))) := UR.push U4 hown' est
          have RR : Hid (Rf (w4.setCell ⟨b + 1, 1, none⟩ (.slice (some ⟨g', 0, none⟩) ((cP xs k).length + 1) cap')) b _) := R4.other (by omega) _
          have BB : Hid (Below b w (w4.setCell ⟨b + 1, 1, none⟩ (.slice (some ⟨g', 0, none⟩) ((cP xs k).length + 1) cap'))) := setBelow B4 (by omega)
          have SX : Hid (SS (w4.setCell ⟨b + 1, 1, none⟩ (.slice (some ⟨g', 0, none⟩) ((cP xs k).length + 1) cap')) (some ⟨g, off, none⟩) T) := SS.setOther S4 (fun g1 o1 e => by have := hgA g1 o1 e; omega)
          have ZZ : b + 2 ≤ (w4.setCell ⟨b + 1, 1, none⟩ (.slice (some ⟨g', 0, none⟩) ((cP xs k).length + 1) cap')).heap.size := by simpa using Z4
          have HN : Hid (∀ g1 o1, some (⟨g, off, none⟩ : Addr) = some ⟨g1, o1, none⟩ → (Value.slice (some ⟨g', 0, none⟩) ((cP xs k).length + 1) cap').ownBlock ≠ some g1) := hne4
          clear U R B hS hne U4 R4 B4 S4 Z4 hgS hne4 hown' hgrow hwhere own2 c0 hrow hrow0 est Z2
          go_roundw
          case rel => exact ⟨k + 1, _, by omega, by go_num, G1, UU.out, RR.out, BB.out, ZZ, SX.out, HN.out⟩
          case measure => first | (simp [intOf]; omega) | simp [intOf]
      · have qa : ((k : Int) == 0) = false := by simp; omega
        have qb : ((k : Int) == (T.length : Int) - 2) = true := by simp; omega
        have qc : ((k : Int) == (T.length : Int) - 1) = false := by simp; omega
        have HK := Hid.mk4 hk4
        clear hk4
        have hW : wOf xs.length k = wTime := w_time (by rw [← HX.out]; exact HK.out)
        have hO' := hO wTime
        have hM' := hM wTime
        have hH' := hH wTime
        rw [← hW] at hO' hM' hH'
        have bad : stW (wOf xs.length k).data.toList (xs.getD k []) = none → Hid _ := fun h => hBad (cG_bad (by rw [← HX.out]; exact hlt) h)
        have step : ∀ (v : ByteArray) (n : Int), stW (wOf xs.length k).data.toList (xs.getD k []) = some v.data.toList → tI v.data.toList = some n → cT xs (k + 1) = cT xs k ∧ cP xs (k + 1) = cP xs k ∧ cM xs (k + 1) = n ∧ cN xs (k + 1) = cN xs k := fun v n h ht => step_time (by have := HK.out; omega) (by rw [← HX.out]; exact HK.out) h ht
        have badT : ∀ v : ByteArray, stW (wOf xs.length k).data.toList (xs.getD k []) = some v.data.toList → tI v.data.toList = none → Hid _ := fun v h ht => hBad (cG_time (by rw [← HX.out]; exact HK.out) h ht)
        have hA := fun w => l6AfterC Y wTime w (by decide)
        rw [hW] at hM' hH'
        clear hO hM hH
        unfold wTime at hA
        go_wp2_with fail
        refine (hU _).mono ?_; rintro e w2' ⟨rfl, rfl⟩
        clear hU
        go_wp2_with fail
        refine (hA _).mono ?_; rintro e w2 ⟨b2, hAF⟩
        replace U := U.below (by omega) b2
        replace R := R.below (by omega) b2
        replace B : Below b w w2 := B.trans (b2.mono (by omega))
        replace hS := hS.below b2
        have Z2 : b + 2 ≤ w2.heap.size := Nat.le_trans Z b2.size
        clear hA b2 Z dl hg
        rcases hAF with ⟨x1, rfl, hx1⟩ | ⟨rfl, hx1⟩
        rotate_left
        · have HD := bad (by
            cases E with
            | true => rw [hW]; exact hM' rfl hx1
            | false => exact hO' rfl)
          clear bad hO' hM' hH' hx1 step badT hBad hW hS hG hne hgA
          cases E
          · have c0 := U.blk.at_ 0 _ rfl
            have c1 := U.blk.at_ 1 _ rfl
            have c2 := U.blk.at_ 2 _ rfl
            have c3 := U.blk.at_ 3 _ rfl
            have d0 := R.at_ 0 _ rfl
            have d1 := R.at_ 1 _ rfl
            have d2 := R.at_ 2 _ rfl
            have d3 := R.at_ 3 _ rfl
            have f0 := R.fz 0
            have f1 := R.fz 1
            have f2 := R.fz 2
            have f3 := R.fz 3
            have HB : ∀ x0 x1 x2 x3, Hid (Below b w ((((w2.setCell ⟨b, 0, none⟩ x0).setCell ⟨b, 1, none⟩ x1).setCell ⟨b, 2, none⟩ x2).setCell ⟨b, 3, none⟩ x3)) := fun _ _ _ _ => setBelow (setBelow (setBelow (setBelow B (Nat.le_refl _)) (Nat.le_refl _)) (Nat.le_refl _)) (Nat.le_refl _)
            clear U R B
            obtain ⟨cT0, hcT⟩ : ∃ y, cT xs k = y := ⟨_, rfl⟩
            obtain ⟨cM0, hcM⟩ : ∃ y, cM xs k = y := ⟨_, rfl⟩
            obtain ⟨cN0, hcN⟩ : ∃ y, cN xs k = y := ⟨_, rfl⟩
            obtain ⟨cL0, hcL⟩ : ∃ y, (cP xs k).length = y := ⟨_, rfl⟩
            rw [hcT] at c0
            rw [hcL] at c1
            rw [hcM] at c2
            rw [hcN] at c3
            clear hcT hcM hcN hcL
            go_wp2
            refine bodyPost_ret (v := .tuple #[.agg #[.string cT0, .slice la cL0 lc, .int .i64 cM0, .string cN0], .bool false]) (by simp [results, Tryz.results28, go_sem, d0, d1, d2, d3]) rfl ?_
            rw [hb]
            exact ⟨(HB _ _ _ _).out, .inr ⟨HD.out, _, _, _, _, _, _, rfl⟩⟩
          · have c0 := U.blk.at_ 0 _ rfl
            have c1 := U.blk.at_ 1 _ rfl
            have c2 := U.blk.at_ 2 _ rfl
            have c3 := U.blk.at_ 3 _ rfl
            have d0 := R.at_ 0 _ rfl
            have d1 := R.at_ 1 _ rfl
            have d2 := R.at_ 2 _ rfl
            have d3 := R.at_ 3 _ rfl
            have f0 := R.fz 0
            have f1 := R.fz 1
            have f2 := R.fz 2
            have f3 := R.fz 3
            have HB : ∀ x0 x1 x2 x3, Hid (Below b w ((((w2.setCell ⟨b, 0, none⟩ x0).setCell ⟨b, 1, none⟩ x1).setCell ⟨b, 2, none⟩ x2).setCell ⟨b, 3, none⟩ x3)) := fun _ _ _ _ => setBelow (setBelow (setBelow (setBelow B (Nat.le_refl _)) (Nat.le_refl _)) (Nat.le_refl _)) (Nat.le_refl _)
            clear U R B
            obtain ⟨cT0, hcT⟩ : ∃ y, cT xs k = y := ⟨_, rfl⟩
            obtain ⟨cM0, hcM⟩ : ∃ y, cM xs k = y := ⟨_, rfl⟩
            obtain ⟨cN0, hcN⟩ : ∃ y, cN xs k = y := ⟨_, rfl⟩
            obtain ⟨cL0, hcL⟩ : ∃ y, (cP xs k).length = y := ⟨_, rfl⟩
            rw [hcT] at c0
            rw [hcL] at c1
            rw [hcM] at c2
            rw [hcN] at c3
            clear hcT hcM hcN hcL
            go_wp2
            refine bodyPost_ret (v := .tuple #[.agg #[.string cT0, .slice la cL0 lc, .int .i64 cM0, .string cN0], .bool false]) (by simp [results, Tryz.results28, go_sem, d0, d1, d2, d3]) rfl ?_
            rw [hb]
            exact ⟨(HB _ _ _ _).out, .inr ⟨HD.out, _, _, _, _, _, _, rfl⟩⟩
        cases E with
        | false =>
          have HD := bad (hO' rfl)
          clear bad hO' hM' hH' hx1 step badT hBad hW hS hG hne hgA
          have c0 := U.blk.at_ 0 _ rfl
          have c1 := U.blk.at_ 1 _ rfl
          have c2 := U.blk.at_ 2 _ rfl
          have c3 := U.blk.at_ 3 _ rfl
          have d0 := R.at_ 0 _ rfl
          have d1 := R.at_ 1 _ rfl
          have d2 := R.at_ 2 _ rfl
          have d3 := R.at_ 3 _ rfl
          have f0 := R.fz 0
          have f1 := R.fz 1
          have f2 := R.fz 2
          have f3 := R.fz 3
          have HB : ∀ x0 x1 x2 x3, Hid (Below b w ((((w2.setCell ⟨b, 0, none⟩ x0).setCell ⟨b, 1, none⟩ x1).setCell ⟨b, 2, none⟩ x2).setCell ⟨b, 3, none⟩ x3)) := fun _ _ _ _ => setBelow (setBelow (setBelow (setBelow B (Nat.le_refl _)) (Nat.le_refl _)) (Nat.le_refl _)) (Nat.le_refl _)
          clear U R B
          obtain ⟨cT0, hcT⟩ : ∃ y, cT xs k = y := ⟨_, rfl⟩
          obtain ⟨cM0, hcM⟩ : ∃ y, cM xs k = y := ⟨_, rfl⟩
          obtain ⟨cN0, hcN⟩ : ∃ y, cN xs k = y := ⟨_, rfl⟩
          obtain ⟨cL0, hcL⟩ : ∃ y, (cP xs k).length = y := ⟨_, rfl⟩
          rw [hcT] at c0
          rw [hcL] at c1
          rw [hcM] at c2
          rw [hcN] at c3
          clear hcT hcM hcN hcL
          go_wp2
          refine bodyPost_ret (v := .tuple #[.agg #[.string cT0, .slice la cL0 lc, .int .i64 cM0, .string cN0], .bool false]) (by simp [results, Tryz.results28, go_sem, d0, d1, d2, d3]) rfl ?_
          rw [hb]
          exact ⟨(HB _ _ _ _).out, .inr ⟨HD.out, _, _, _, _, _, _, rfl⟩⟩
        | true =>
          have hst := hH' x1 rfl hx1
          rw [← hW] at hst
          have hxs1 : x1.size ≤ 1048576 := by
            have := congrArg List.length hx1
            simp only [List.length_append, List.length_cons, List.length_nil, size_eq] at this
            omega
          clear bad hO' hM' hH' hx1 hW
          have hTm := fun w => l6TimeC x1 w hxs1
          go_wp2_with fail
          refine (hTm _).mono ?_; rintro e w3 ⟨b3, hTM⟩
          replace U := U.below (by omega) b3
          replace R := R.below (by omega) b3
          replace B : Below b w w3 := B.trans (b3.mono (by omega))
          replace hS := hS.below b3
          replace Z2 : b + 2 ≤ w3.heap.size := Nat.le_trans Z2 b3.size
          clear hTm b3
          rcases hTM with ⟨n1, hn1, rfl⟩ | ⟨hn1, n1, rfl⟩
          · obtain ⟨e1, e2, e3, e4⟩ := step x1 n1 hst hn1
            have G1 : Hid (cG xs (k + 1)) := cG_step H3.out hG.out hst (fun _ => by rw [hn1]; rfl)
            have UU : Hid (UR xs (k + 1) b (.slice la (cP xs k).length lc) (w3.setCell ⟨b + 1, 2, none⟩ (.int .i64 n1))) := UR.next U (by decide) (by decide) (by simp [e1, e3, e4]) e2
            have RR : Hid (Rf (w3.setCell ⟨b + 1, 2, none⟩ (.int .i64 n1)) b _) := R.other (by omega) _
            have BB : Hid (Below b w (w3.setCell ⟨b + 1, 2, none⟩ (.int .i64 n1))) := setBelow B (by omega)
            have SX : Hid (SS (w3.setCell ⟨b + 1, 2, none⟩ (.int .i64 n1)) (some ⟨g, off, none⟩) T) := SS.setOther hS (fun g1 o1 e => by have := hgA g1 o1 e; omega)
            have ZZ : b + 2 ≤ (w3.setCell ⟨b + 1, 2, none⟩ (.int .i64 n1)).heap.size := by simpa using Z2
            have c0 := U.blk.at_ 2 _ rfl
            have f0 := U.blk.fz 2
            clear step badT hn1 hst e1 e2 e3 e4 U R B hS hG hBad Z2
            go_wp2
            go_roundw
            case rel => exact ⟨k + 1, _, by omega, by go_num, G1, UU.out, RR.out, BB.out, ZZ, SX.out, hne⟩
            case measure => first | (simp [intOf]; omega) | simp [intOf]
          · have HD := badT x1 hst hn1
            clear step badT hst hn1 hBad hS hG hne hgA
            have c0 := U.blk.at_ 0 _ rfl
            have c1 := U.blk.at_ 1 _ rfl
            have c2 := U.blk.at_ 2 _ rfl
            have c3 := U.blk.at_ 3 _ rfl
            have d0 := R.at_ 0 _ rfl
            have d1 := R.at_ 1 _ rfl
            have d2 := R.at_ 2 _ rfl
            have d3 := R.at_ 3 _ rfl
            have f0 := R.fz 0
            have f1 := R.fz 1
            have f2 := R.fz 2
            have f3 := R.fz 3
            have HB : ∀ x0 x1 x2 x3, Hid (Below b w ((((w3.setCell ⟨b, 0, none⟩ x0).setCell ⟨b, 1, none⟩ x1).setCell ⟨b, 2, none⟩ x2).setCell ⟨b, 3, none⟩ x3)) := fun _ _ _ _ => setBelow (setBelow (setBelow (setBelow B (Nat.le_refl _)) (Nat.le_refl _)) (Nat.le_refl _)) (Nat.le_refl _)
            clear U R B
            obtain ⟨cT0, hcT⟩ : ∃ y, cT xs k = y := ⟨_, rfl⟩
            obtain ⟨cM0, hcM⟩ : ∃ y, cM xs k = y := ⟨_, rfl⟩
            obtain ⟨cN0, hcN⟩ : ∃ y, cN xs k = y := ⟨_, rfl⟩
            obtain ⟨cL0, hcL⟩ : ∃ y, (cP xs k).length = y := ⟨_, rfl⟩
            rw [hcT] at c0
            rw [hcL] at c1
            rw [hcM] at c2
            rw [hcN] at c3
            clear hcT hcM hcN hcL
            go_wp2
            refine bodyPost_ret (v := .tuple #[.agg #[.string cT0, .slice la cL0 lc, .int .i64 cM0, .string cN0], .bool false]) (by simp [results, Tryz.results28, go_sem, d0, d1, d2, d3]) rfl ?_
            rw [hb]
            exact ⟨(HB _ _ _ _).out, .inr ⟨HD.out, _, _, _, _, _, _, rfl⟩⟩
      · have qa : ((k : Int) == 0) = false := by simp; omega
        have qb : ((k : Int) == (T.length : Int) - 2) = false := by simp; omega
        have qc : ((k : Int) == (T.length : Int) - 1) = true := by simp; omega
        have HK := Hid.mk4 hk4
        clear hk4
        have hW : wOf xs.length k = wNote := w_note (by rw [← HX.out]; exact HK.out)
        have hO' := hO wNote
        have hM' := hM wNote
        have hH' := hH wNote
        rw [← hW] at hO' hM' hH'
        have bad : stW (wOf xs.length k).data.toList (xs.getD k []) = none → Hid _ := fun h => hBad (cG_bad (by rw [← HX.out]; exact hlt) h)
        have step : ∀ v : ByteArray, stW (wOf xs.length k).data.toList (xs.getD k []) = some v.data.toList → cT xs (k + 1) = cT xs k ∧ cP xs (k + 1) = cP xs k ∧ cM xs (k + 1) = cM xs k ∧ cN xs (k + 1) = v := fun v h => step_note H3.out (by rw [← HX.out]; exact HK.out) h
        have hA := fun w => l6AfterC Y wNote w (by decide)
        rw [hW] at hM' hH'
        clear hO hM hH
        unfold wNote at hA
        go_wp2_with fail
        refine (hU _).mono ?_; rintro e w2' ⟨rfl, rfl⟩
        clear hU
        go_wp2_with fail
        refine (hA _).mono ?_; rintro e w2 ⟨b2, hAF⟩
        replace U := U.below (by omega) b2
        replace R := R.below (by omega) b2
        replace B : Below b w w2 := B.trans (b2.mono (by omega))
        replace hS := hS.below b2
        have Z2 : b + 2 ≤ w2.heap.size := Nat.le_trans Z b2.size
        clear hA b2 Z dl hg
        rcases hAF with ⟨x1, rfl, hx1⟩ | ⟨rfl, hx1⟩
        rotate_left
        · have HD := bad (by
            cases E with
            | true => rw [hW]; exact hM' rfl hx1
            | false => exact hO' rfl)
          clear bad hO' hM' hH' hx1 step hBad hW hS hG hne hgA
          cases E
          · have c0 := U.blk.at_ 0 _ rfl
            have c1 := U.blk.at_ 1 _ rfl
            have c2 := U.blk.at_ 2 _ rfl
            have c3 := U.blk.at_ 3 _ rfl
            have d0 := R.at_ 0 _ rfl
            have d1 := R.at_ 1 _ rfl
            have d2 := R.at_ 2 _ rfl
            have d3 := R.at_ 3 _ rfl
            have f0 := R.fz 0
            have f1 := R.fz 1
            have f2 := R.fz 2
            have f3 := R.fz 3
            have HB : ∀ x0 x1 x2 x3, Hid (Below b w ((((w2.setCell ⟨b, 0, none⟩ x0).setCell ⟨b, 1, none⟩ x1).setCell ⟨b, 2, none⟩ x2).setCell ⟨b, 3, none⟩ x3)) := fun _ _ _ _ => setBelow (setBelow (setBelow (setBelow B (Nat.le_refl _)) (Nat.le_refl _)) (Nat.le_refl _)) (Nat.le_refl _)
            clear U R B
            obtain ⟨cT0, hcT⟩ : ∃ y, cT xs k = y := ⟨_, rfl⟩
            obtain ⟨cM0, hcM⟩ : ∃ y, cM xs k = y := ⟨_, rfl⟩
            obtain ⟨cN0, hcN⟩ : ∃ y, cN xs k = y := ⟨_, rfl⟩
            obtain ⟨cL0, hcL⟩ : ∃ y, (cP xs k).length = y := ⟨_, rfl⟩
            rw [hcT] at c0
            rw [hcL] at c1
            rw [hcM] at c2
            rw [hcN] at c3
            clear hcT hcM hcN hcL
            go_wp2
            refine bodyPost_ret (v := .tuple #[.agg #[.string cT0, .slice la cL0 lc, .int .i64 cM0, .string cN0], .bool false]) (by simp [results, Tryz.results28, go_sem, d0, d1, d2, d3]) rfl ?_
            rw [hb]
            exact ⟨(HB _ _ _ _).out, .inr ⟨HD.out, _, _, _, _, _, _, rfl⟩⟩
          · have c0 := U.blk.at_ 0 _ rfl
            have c1 := U.blk.at_ 1 _ rfl
            have c2 := U.blk.at_ 2 _ rfl
            have c3 := U.blk.at_ 3 _ rfl
            have d0 := R.at_ 0 _ rfl
            have d1 := R.at_ 1 _ rfl
            have d2 := R.at_ 2 _ rfl
            have d3 := R.at_ 3 _ rfl
            have f0 := R.fz 0
            have f1 := R.fz 1
            have f2 := R.fz 2
            have f3 := R.fz 3
            have HB : ∀ x0 x1 x2 x3, Hid (Below b w ((((w2.setCell ⟨b, 0, none⟩ x0).setCell ⟨b, 1, none⟩ x1).setCell ⟨b, 2, none⟩ x2).setCell ⟨b, 3, none⟩ x3)) := fun _ _ _ _ => setBelow (setBelow (setBelow (setBelow B (Nat.le_refl _)) (Nat.le_refl _)) (Nat.le_refl _)) (Nat.le_refl _)
            clear U R B
            obtain ⟨cT0, hcT⟩ : ∃ y, cT xs k = y := ⟨_, rfl⟩
            obtain ⟨cM0, hcM⟩ : ∃ y, cM xs k = y := ⟨_, rfl⟩
            obtain ⟨cN0, hcN⟩ : ∃ y, cN xs k = y := ⟨_, rfl⟩
            obtain ⟨cL0, hcL⟩ : ∃ y, (cP xs k).length = y := ⟨_, rfl⟩
            rw [hcT] at c0
            rw [hcL] at c1
            rw [hcM] at c2
            rw [hcN] at c3
            clear hcT hcM hcN hcL
            go_wp2
            refine bodyPost_ret (v := .tuple #[.agg #[.string cT0, .slice la cL0 lc, .int .i64 cM0, .string cN0], .bool false]) (by simp [results, Tryz.results28, go_sem, d0, d1, d2, d3]) rfl ?_
            rw [hb]
            exact ⟨(HB _ _ _ _).out, .inr ⟨HD.out, _, _, _, _, _, _, rfl⟩⟩
        cases E with
        | false =>
          have HD := bad (hO' rfl)
          clear bad hO' hM' hH' hx1 step hBad hW hS hG hne hgA
          have c0 := U.blk.at_ 0 _ rfl
          have c1 := U.blk.at_ 1 _ rfl
          have c2 := U.blk.at_ 2 _ rfl
          have c3 := U.blk.at_ 3 _ rfl
          have d0 := R.at_ 0 _ rfl
          have d1 := R.at_ 1 _ rfl
          have d2 := R.at_ 2 _ rfl
          have d3 := R.at_ 3 _ rfl
          have f0 := R.fz 0
          have f1 := R.fz 1
          have f2 := R.fz 2
          have f3 := R.fz 3
          have HB : ∀ x0 x1 x2 x3, Hid (Below b w ((((w2.setCell ⟨b, 0, none⟩ x0).setCell ⟨b, 1, none⟩ x1).setCell ⟨b, 2, none⟩ x2).setCell ⟨b, 3, none⟩ x3)) := fun _ _ _ _ => setBelow (setBelow (setBelow (setBelow B (Nat.le_refl _)) (Nat.le_refl _)) (Nat.le_refl _)) (Nat.le_refl _)
          clear U R B
          obtain ⟨cT0, hcT⟩ : ∃ y, cT xs k = y := ⟨_, rfl⟩
          obtain ⟨cM0, hcM⟩ : ∃ y, cM xs k = y := ⟨_, rfl⟩
          obtain ⟨cN0, hcN⟩ : ∃ y, cN xs k = y := ⟨_, rfl⟩
          obtain ⟨cL0, hcL⟩ : ∃ y, (cP xs k).length = y := ⟨_, rfl⟩
          rw [hcT] at c0
          rw [hcL] at c1
          rw [hcM] at c2
          rw [hcN] at c3
          clear hcT hcM hcN hcL
          go_wp2
          refine bodyPost_ret (v := .tuple #[.agg #[.string cT0, .slice la cL0 lc, .int .i64 cM0, .string cN0], .bool false]) (by simp [results, Tryz.results28, go_sem, d0, d1, d2, d3]) rfl ?_
          rw [hb]
          exact ⟨(HB _ _ _ _).out, .inr ⟨HD.out, _, _, _, _, _, _, rfl⟩⟩
        | true =>
          have hst := hH' x1 rfl hx1
          rw [← hW] at hst
          have hxs1 : x1.size ≤ 1048576 := by
            have := congrArg List.length hx1
            simp only [List.length_append, List.length_cons, List.length_nil, size_eq] at this
            omega
          clear bad hO' hM' hH' hx1 hW
          obtain ⟨e1, e2, e3, e4⟩ := step x1 hst
          have G1 : Hid (cG xs (k + 1)) := cG_step H3.out hG.out hst (fun h => by rw [← HX.out] at h; have := HK.out; omega)
          have UU : Hid (UR xs (k + 1) b (.slice la (cP xs k).length lc) (w2.setCell ⟨b + 1, 3, none⟩ (.string x1))) := UR.next U (by decide) (by decide) (by simp [e1, e3, e4]) e2
          have RR : Hid (Rf (w2.setCell ⟨b + 1, 3, none⟩ (.string x1)) b _) := R.other (by omega) _
          have BB : Hid (Below b w (w2.setCell ⟨b + 1, 3, none⟩ (.string x1))) := setBelow B (by omega)
          have SX : Hid (SS (w2.setCell ⟨b + 1, 3, none⟩ (.string x1)) (some ⟨g, off, none⟩) T) := SS.setOther hS (fun g1 o1 e => by have := hgA g1 o1 e; omega)
          have ZZ : b + 2 ≤ (w2.setCell ⟨b + 1, 3, none⟩ (.string x1)).heap.size := by simpa using Z2
          have c0 := U.blk.at_ 3 _ rfl
          have f0 := U.blk.fz 3
          clear step hst e1 e2 e3 e4 U R B hS hG hBad Z2
          go_wp2
          go_roundw
          case rel => exact ⟨k + 1, _, by omega, by go_num, G1, UU.out, RR.out, BB.out, ZZ, SX.out, hne⟩
          case measure => first | (simp [intOf]; omega) | simp [intOf]
    · have ek : k = T.length := by omega
      have qk : ¬ (k : Int) < (T.length : Int) := by omega
      have ekx : k = xs.length := by rw [ek, HX.out]
      have hE := hEnd H3.out (by rw [← ekx]; exact hG.out)
      rw [← ekx] at hE
      obtain ⟨hOk, hCm⟩ := hE
      have hPl : (cP xs k).length ≤ 1048576 := by have := cP_len xs k; rw [← HX.out] at this; omega
      have hxz : ∀ i, i < xs.length → (xs.getD i []).length ≤ 1048576 := fun i hi => by
        have hi' : i < T.length := by rw [HX.out]; exact hi
        rw [hxT i hi', size_eq]; exact hls i hi'
      obtain ⟨aP, cPc, hvv, sP, -⟩ := SS_of_row U.row rfl (fun j hj => Nat.le_trans (cP_size hxz j hj) (by decide))
      simp only [Value.slice.injEq, true_and] at hvv
      obtain ⟨rfl, rfl⟩ := hvv
      have hF := fun W h => specCommitFault (cT xs k) la lc (cP xs k) (cM xs k) (cN xs k) W h hPl
      have hYes : cmF (cT xs k) (cP xs k) (cM xs k) (cN xs k) = 0 → Hid (sOk tI xs ∧ cmF (sCm tI xs).1 (sCm tI xs).2.1 (sCm tI xs).2.2.1 (sCm tI xs).2.2.2 = 0) := fun h => ⟨hOk, by rw [hCm]; exact h⟩
      have hNo : ¬ cmF (cT xs k) (cP xs k) (cM xs k) (cN xs k) = 0 → Hid (¬ (sOk tI xs ∧ cmF (sCm tI xs).1 (sCm tI xs).2.1 (sCm tI xs).2.2.1 (sCm tI xs).2.2.2 = 0)) := fun h q => h (by have := q.2; rw [hCm] at this; exact this)
      have HCm : Hid (sCm tI xs = (cT xs k, cP xs k, cM xs k, cN xs k)) := hCm
      obtain ⟨FF, hFe⟩ : ∃ F, cmF (cT xs k) (cP xs k) (cM xs k) (cN xs k) = F := ⟨_, rfl⟩
      rw [hFe] at hYes hNo
      simp only [hFe] at hF
      have sP' := sP.below (below_drew (Below.refl wr.heap.size wr))
      have c0 := U.blk.at_ 0 _ rfl
      have c1 := U.blk.at_ 1 _ rfl
      have c2 := U.blk.at_ 2 _ rfl
      have c3 := U.blk.at_ 3 _ rfl
      clear hxT hls hBad hEnd hS hne hgA hFe hOk hCm ek ekx hxz hG sP
      go_wp2_with fail
      refine wp_region_held_drew (S := fun u => u.cell? ⟨b + 1, 0, none⟩ = some (.string (cT xs k)) ∧ u.cell? ⟨b + 1, 1, none⟩ = some (.slice la (cP xs k).length lc) ∧ u.cell? ⟨b + 1, 2, none⟩ = some (.int .i64 (cM xs k)) ∧ u.cell? ⟨b + 1, 3, none⟩ = some (.string (cN xs k))) (by kernel_rfl) ⟨c0, c1, c2, c3⟩ (fun hHeld => ?_)
      refine takeD (i := 0) (d := 86) (oi := _) (v := ?_) (listed' := #[true, false, false, false, false, false]) rfl (by kernel_rfl) (by kernel_rfl) (by kernel_rfl) (fun _ _ _ h => h) (Or.inl ⟨by rfl, ?_⟩) hHeld (by kernel_rfl) (by kernel_rfl) ?_
      rotate_left
      · intro w hSw
        try dsimp only at hSw
        first
          | (go_simp; done)
          | (go_simp; with_reducible rfl)
      simp only [Act.put, List.setIfInBounds_toArray, List.set_cons_zero, List.set_cons_succ]
      refine takeD (i := 1) (d := 87) (oi := _) (v := ?_) (listed' := #[true, true, false, false, false, false]) rfl (by kernel_rfl) (by kernel_rfl) (by kernel_rfl) (fun _ _ _ h => h) (Or.inl ⟨by rfl, ?_⟩) hHeld (by kernel_rfl) (by kernel_rfl) ?_
      rotate_left
      · intro w hSw
        try dsimp only at hSw
        first
          | (go_simp; done)
          | (go_simp; with_reducible rfl)
      simp only [Act.put, List.setIfInBounds_toArray, List.set_cons_zero, List.set_cons_succ]
      refine wpAnyH_ready (rs := [2]) (by kernel_rfl) (by simp) ?_
      refine AllReadyH.cons (o := _) rfl (fun K hK => ?_) AllReadyH.nil
      go_simp
      refine (hF _ sP').mono ?_
      rintro e w3 ⟨rfl, b3⟩
      have B3' : Below wr.heap.size wr w3 := (below_drew (Below.refl _ wr)).trans b3
      have U3 := U.below (by omega) B3'
      have R3 := R.below (by omega) B3'
      have B3 : Below b w w3 := B.trans (B3'.mono (by omega))
      have e0 := U3.blk.at_ 0 _ rfl
      have e1 := U3.blk.at_ 1 _ rfl
      have e2 := U3.blk.at_ 2 _ rfl
      have e3 := U3.blk.at_ 3 _ rfl
      have d0 := R3.at_ 0 _ rfl
      have d1 := R3.at_ 1 _ rfl
      have d2 := R3.at_ 2 _ rfl
      have d3 := R3.at_ 3 _ rfl
      have f0 := R3.fz 0
      have f1 := R3.fz 1
      have f2 := R3.fz 2
      have f3 := R3.fz 3
      have row3 := U3.row
      have HB : ∀ x0 x1 x2 x3, Hid (Below b w ((((w3.setCell ⟨b, 0, none⟩ x0).setCell ⟨b, 1, none⟩ x1).setCell ⟨b, 2, none⟩ x2).setCell ⟨b, 3, none⟩ x3)) := fun _ _ _ _ => setBelow (setBelow (setBelow (setBelow B3 (Nat.le_refl _)) (Nat.le_refl _)) (Nat.le_refl _)) (Nat.le_refl _)
      have HO : ∀ x0 x1 x2 x3, Hid (((((w3.setCell ⟨b, 0, none⟩ x0).setCell ⟨b, 1, none⟩ x1).setCell ⟨b, 2, none⟩ x2).setCell ⟨b, 3, none⟩ x3).ownsRow b 9 1 (.slice la (cP xs k).length lc) (cP xs k).length ((cP xs k).map Value.string)) := fun _ _ _ _ => rowDown (ownSet (ownSet (ownSet (ownSet row3 (by omega)) (by omega)) (by omega)) (by omega)) (by omega)
      have HS : ∀ x0 x1 x2 x3, Hid (Rf ((((w3.setCell ⟨b, 0, none⟩ x0).setCell ⟨b, 1, none⟩ x1).setCell ⟨b, 2, none⟩ x2).setCell ⟨b, 3, none⟩ x3) (b + 1) _) := fun _ _ _ _ => (((U3.blk.other (by omega) _).other (by omega) _).other (by omega) _).other (by omega) _
      have HR : ∀ x0 x1 x2 x3, Hid (Rf ((((w3.setCell ⟨b, 0, none⟩ x0).setCell ⟨b, 1, none⟩ x1).setCell ⟨b, 2, none⟩ x2).setCell ⟨b, 3, none⟩ x3) b [x0, x1, x2, x3]) := fun x0 x1 x2 x3 => (((R3.set (o := 0) (by simp) x0).set (o := 1) (by simp) x1).set (o := 2) (by simp) x2).set (o := 3) (by simp) x3
      clear U R B U3 R3 B3 b3 B3' row3 hF sP' hHeld c0 c1 c2 c3
      obtain ⟨cT0, hcT⟩ : ∃ y, cT xs k = y := ⟨_, rfl⟩
      obtain ⟨cM0, hcM⟩ : ∃ y, cM xs k = y := ⟨_, rfl⟩
      obtain ⟨cN0, hcN⟩ : ∃ y, cN xs k = y := ⟨_, rfl⟩
      obtain ⟨cL0, hcL⟩ : ∃ y, cP xs k = y := ⟨_, rfl⟩
      simp only [hcT, hcM, hcN, hcL] at *
      clear hcT hcM hcN hcL
      refine hK.out _ _ ⟨e0, e1, e2, e3⟩ (fun hS1 => ?_)
      clear hK K
      simp only [List.setIfInBounds_toArray, List.set_cons_zero, List.set_cons_succ]
      refine takeD (i := 3) (d := 89) (oi := _) (v := ?_) (listed' := #[true, true, true, true, false, false]) rfl (by kernel_rfl) (by kernel_rfl) (by kernel_rfl) (fun _ _ _ h => h) (Or.inl ⟨by rfl, ?_⟩) hS1 (by kernel_rfl) (by kernel_rfl) ?_
      rotate_left
      · intro w hSw
        try dsimp only at hSw
        first
          | (go_simp; done)
          | (go_simp; with_reducible rfl)
      simp only [Act.put, List.setIfInBounds_toArray, List.set_cons_zero, List.set_cons_succ]
      refine wpAnyH_ready (rs := [4]) (by kernel_rfl) (by simp) ?_
      refine AllReadyH.cons (o := _) rfl (fun K hK => ?_) AllReadyH.nil
      go_simp
      have s4 := (HS (.string cT0) (.slice la cL0.length lc) (.int .i64 cM0) (.string cN0)).out
      refine hK.out _ _ ⟨s4.at_ 0 _ rfl, s4.at_ 1 _ rfl, s4.at_ 2 _ rfl, s4.at_ 3 _ rfl⟩ (fun hS4 => ?_)
      clear hK K s4
      simp only [List.setIfInBounds_toArray, List.set_cons_zero, List.set_cons_succ]
      refine takeD (i := 5) (d := 3) (oi := _) (v := ?_) (listed' := #[true, true, true, true, true, true]) rfl (by kernel_rfl) (by kernel_rfl) (by kernel_rfl) (fun _ _ _ h => h) (Or.inl ⟨by rfl, ?_⟩) hS4 (by kernel_rfl) (by kernel_rfl) ?_
      rotate_left
      · intro w hSw
        try dsimp only at hSw
        first
          | (go_simp; done)
          | (go_simp; with_reducible rfl)
      simp only [Act.put, List.setIfInBounds_toArray, List.set_cons_zero, List.set_cons_succ]
      refine wpAnyH_done (by kernel_rfl) ?_ _
      have r4 := (HR (.string cT0) (.slice la cL0.length lc) (.int .i64 cM0) (.string cN0)).out
      have g0 := r4.at_ 0 _ rfl
      have g1 := r4.at_ 1 _ rfl
      have g2 := r4.at_ 2 _ rfl
      have g3 := r4.at_ 3 _ rfl
      go_wp2
      by_cases h0 : FF = 0
      · have HD := hYes h0
        subst h0
        refine bodyPost_ret (v := .tuple #[.agg #[.string cT0, .slice la cL0.length lc, .int .i64 cM0, .string cN0], .bool true]) (by simp [results, Tryz.results28, go_sem, g0, g1, g2, g3]) rfl ?_
        rw [hb]
        refine ⟨(HB _ _ _ _).out, .inl ⟨HD.out, .slice la cL0.length lc, ?_, ?_⟩⟩
        · rw [HCm.out]
        · rw [HCm.out]; exact (HO _ _ _ _).out
      · have HD := hNo h0
        have q0 : (FF == 0) = false := by simpa using h0
        refine bodyPost_ret (v := .tuple #[.agg #[.string cT0, .slice la cL0.length lc, .int .i64 cM0, .string cN0], .bool false]) (by simp [results, Tryz.results28, go_sem, g0, g1, g2, g3, q0]) rfl ?_
        rw [hb]
        exact ⟨(HB _ _ _ _).out, .inr ⟨HD.out, _, _, _, _, _, _, rfl⟩⟩
end Go.Proofs.YtijphomojljckaaGreatDoor.Dc
