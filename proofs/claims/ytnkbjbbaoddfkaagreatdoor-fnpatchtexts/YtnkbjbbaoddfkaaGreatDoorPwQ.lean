/- The patch writer: a builder that is the first field of a struct, and a mark that it is over. No statement is proved here. -/
import Derived.Test.YtnkbjbbaoddfkaaGreatDoorRows
import Derived.Test.YtnkbjbbaoddfkaaGreatDoorLemQ
import Derived.Test.YtnkbjbbaoddfkaaGreatDoorDTabQ
import Derived.Test.YtnkbjbbaoddfkaaGreatDoorBldQ
import Derived.Test.YtnkbjbbaoddfkaaGreatDoorBldFQ
import Derived.Lib.Strings
import Derived.Lib.Slices
import Derived.Lib.Walk
import Derived.Lib.Builder
import Derived.Lib.AppendStr
import Derived.Lib.UnsafeStr
import Derived.Maps.AppendAt
import Derived.WalkKit
import Derived.ProofKit
import Derived.Below
import Derived.WalkSpells
import Derived.Laws.Externs
import Derived.RangeFuncRecord
set_option linter.unusedVariables false
namespace Go.Proofs.YtnkbjbbaoddfkaaGreatDoor.Pw
open Go.RowKit

/-- The writer's block: the builder's two cells, and whether it is over. -/
def At (b : Nat) (p v : Value) (o : Bool) (bs : List Value) (w : World) : Prop := w.heap[b]? = some (.cells #[p, v, .bool o] 54 (0, 0)) ∧ w.ownsRowF (b + 1) 5 1 v bs.length bs
theorem liesPw : liesAt Tryz.prog Tryz.prog.depth 54 (3 / Tryz.prog.cellsOf 54) 0 52 1 = true := by kernel_rfl
theorem At.shape {b : Nat} {p v : Value} {o : Bool} {bs : List Value} {w : World} (h : At b p v o bs w) : w.shape? b = some (54, 3) := by simp [World.shape?, h.1]
theorem At.c0 {b : Nat} {p v : Value} {o : Bool} {bs : List Value} {w : World} (h : At b p v o bs w) : w.cell? ⟨b, 0, none⟩ = some p := by rw [Lib.cell_of_heap h.1]; rfl
theorem At.c1 {b : Nat} {p v : Value} {o : Bool} {bs : List Value} {w : World} (h : At b p v o bs w) : w.cell? ⟨b, 1, none⟩ = some v := by rw [Lib.cell_of_heap h.1]; rfl
theorem At.c2 {b : Nat} {p v : Value} {o : Bool} {bs : List Value} {w : World} (h : At b p v o bs w) : w.cell? ⟨b, 2, none⟩ = some (.bool o) := by rw [Lib.cell_of_heap h.1]; rfl
theorem At.fz {b : Nat} {p v : Value} {o : Bool} {bs : List Value} {w : World} (h : At b p v o bs w) (k : Nat) : w.frozen? ⟨b, k, none⟩ = false := Lib.frozen_of_heap h.1 k
theorem At.lt {b : Nat} {p v : Value} {o : Bool} {bs : List Value} {w : World} (h : At b p v o bs w) : b < w.heap.size := by
  rcases Nat.lt_or_ge b w.heap.size with h' | h'
  · exact h'
  · have := h.1; simp [Array.getElem?_eq_none h'] at this
theorem own_set1 {w : World} {b o : Nat} {v u : Value} {n : Nat} {xs : List Value} (h : w.ownsRowF (b + 1) 5 1 v n xs) : (w.setCell ⟨b, o, none⟩ u).ownsRowF (b + 1) 5 1 v n xs := own_set h (by omega)
theorem At.set0 {b : Nat} {p v : Value} {o : Bool} {bs : List Value} {w : World} (h : At b p v o bs w) (q : Value) : At b q v o bs (w.setCell ⟨b, 0, none⟩ q) :=
  ⟨by simp [World.setCell, Array.getElem?_modify, h.1], own_set1 h.2⟩
theorem At.set2 {b : Nat} {p v : Value} {o : Bool} {bs : List Value} {w : World} (h : At b p v o bs w) (q : Bool) : At b p v q bs (w.setCell ⟨b, 2, none⟩ (.bool q)) :=
  ⟨by simp [World.setCell, Array.getElem?_modify, h.1], own_set1 h.2⟩
theorem At.below {b : Nat} {p v : Value} {o : Bool} {bs : List Value} {w w' : World} (h : At b p v o bs w) (hb : Below w.heap.size w w') : At b p v o bs w' :=
  ⟨(hb.block b h.lt).trans h.1, h.2.kept (grownOfBelow hb none) (by cases hv : v.ownBlock <;> simp)⟩
set_option maxHeartbeats 1000000 in
set_option maxRecDepth 100000 in
theorem copyFresh (b : Nat) (w : World) (h0 : w.cell? ⟨b, 0, none⟩ = some (.pointer none)) (hsh : w.shape? b = some (54, 3)) (hfz : w.frozen? ⟨b, 0, none⟩ = false) :
    Calls Tryz.prog 82 #[.pointer (some ⟨b, 0, none⟩)] w fun e w' => e = .returned (.tuple #[]) ∧ w' = w.setCell ⟨b, 0, none⟩ (.pointer (some ⟨b, 0, none⟩)) := by
  obtain ⟨j, hj, hjs⟩ := Option.map_eq_some_iff.1 sizeBuilder
  go_enter Tryz.func82, Tryz.ntmps82
  go_wp2
  rw [Lib.run_to_unsafe w ⟨b, 0, none⟩ Tryz.underlying50 Tryz.underlying146 hj (by rw [hjs]; decide) hsh (Nat.zero_lt_succ 2)]
  simp only [Result.andThen]
  rw [Oper.upon_value]
  go_wp2
  rw [run_callFunc_extern Tryz.func99 (by kernel_rfl) (by kernel_rfl) (by kernel_rfl) (e := Extern.AbiNoEscape.same) (by kernel_rfl)]
  rw [Lib.run_noEscape]
  simp only [Result.andThen]
  rw [Oper.upon_value]
  go_wp2
  rw [Lib.run_from_unsafe w ⟨b, 0, none⟩ Tryz.underlying146 Tryz.underlying50 hj hsh liesPw]
  simp only [Result.andThen]
  rw [Oper.upon_value]
  go_wp2
  go_end0
  exact ⟨rfl, rfl⟩
def IsP (b : Nat) (p : Value) : Prop := p = .pointer none ∨ p = .pointer (some ⟨b, 0, none⟩)
theorem copyCheck3 (b : Nat) (p v : Value) (o : Bool) (bs : List Value) (w : World) (h : At b p v o bs w) (hp : IsP b p) :
    Calls Tryz.prog 82 #[.pointer (some ⟨b, 0, none⟩)] w fun e w' => e = .returned (.tuple #[]) ∧ (At b (.pointer (some ⟨b, 0, none⟩)) v o bs w' ∧ Ky (b + 1) b w w') := by
  rcases hp with rfl | rfl
  · refine (copyFresh b w h.c0 h.shape (h.fz 0)).mono ?_
    rintro e w' ⟨rfl, rfl⟩
    exact ⟨rfl, h.set0 _, Ky.set _ _ _ _ _⟩
  · refine (copyCheck_used b w h.c0).mono ?_
    rintro e w' ⟨rfl, rfl⟩
    exact ⟨rfl, h, Ky.refl _ _ _⟩
set_option maxHeartbeats 2000000 in
set_option maxRecDepth 100000 in
theorem writeString3 (b : Nat) (p v : Value) (o : Bool) (bs : List Value) (s : ByteArray) (w : World) (h : At b p v o bs w) (hp : IsP b p) (hlen : bs.length + s.size ≤ 140737488355328) :
    Calls Tryz.prog 62 #[.pointer (some ⟨b, 0, none⟩), .string s] w fun e w' => e = .returned (.tuple #[.int .i64 s.size, .nilIface]) ∧ ((∃ v', At b (.pointer (some ⟨b, 0, none⟩)) v' o (bs ++ Lib.strCells s) w') ∧ Ky (b + 1) b w w') := by
  obtain ⟨i0, hi, hz0, hz1, hz2⟩ := info_parts infoByte
  have hBw : b + 1 ≤ w.heap.size := h.lt
  go_enter Tryz.func62, Tryz.ntmps62
  go_wp2_with (go_at_call 82; refine (copyCheck3 b p v o bs _ h hp).mono ?_)
  rintro e w1 ⟨rfl, h1, hb1⟩
  have hown := h1.2
  have hbk := h1.1
  have hne : v.ownBlock ≠ some b := fun e => by have := (hown.lt b e).1; omega
  have c0 := h1.c0
  have c1 := h1.c1
  go_wp2_with (at_builtin; refine Lib.wpList_append_own_stringF _ rfl _ _ 22 9 rfl (b + 1) 5 i0 Tryz.underlying22 Tryz.underlying9 hi hz0 hz1 hz2 _ _ _ rfl hown s rfl ?c3 ?c4 ?c5 ?_)
  case c3 => unfold maxLen; omega
  case c4 => omega
  case c5 => have := hb1.kb.size; omega
  intro v' w2 hown' hgrow _
  have hlt := h1.lt
  have hb2 : w2.heap[b]? = some (.cells #[.pointer (some ⟨b, 0, none⟩), v, .bool o] 54 (0, 0)) := by
    rw [hgrow.block b hlt (fun e => hne e.symm)]
    exact hbk
  have d0 : w2.cell? ⟨b, 0, none⟩ = some (.pointer (some ⟨b, 0, none⟩)) := by rw [Lib.cell_of_heap hb2]; rfl
  have d1 : w2.cell? ⟨b, 1, none⟩ = some v := by rw [Lib.cell_of_heap hb2]; rfl
  have f1 : w2.frozen? ⟨b, 1, none⟩ = false := Lib.frozen_of_heap hb2 1
  obtain ⟨ao, n', cap, rfl⟩ : ∃ ao n' cap, v' = .slice ao n' cap := by
    rcases hown'.2 with ⟨hv, _⟩ | ⟨g, cap, cur, fz, hv, _⟩
    · exact ⟨_, _, _, hv⟩
    · exact ⟨_, _, _, hv⟩
  go_wp2
  go_ret2
  refine ⟨rfl, ⟨.slice ao n' cap, ?_⟩, ?_⟩
  · exact ⟨by simp [World.setCell, Array.getElem?_modify, hb2], own_set1 (by simpa [Lib.strCells_length] using hown')⟩
  · exact (hb1.grown hown hgrow (by have := hb1.kb.size; omega) (fun k hk => (hown.lt k hk).1)).trans (Ky.set _ _ _ _ _)
theorem len3 (b : Nat) (p v : Value) (o : Bool) (bs : List Value) (w : World) (h : At b p v o bs w) :
    Calls Tryz.prog 61 #[.pointer (some ⟨b, 0, none⟩)] w fun e w' => e = .returned (.int .i64 bs.length) ∧ w' = w := by
  have c1 := h.c1
  obtain ⟨ao, cap, rfl⟩ : ∃ ao cap, v = .slice ao bs.length cap := by
    rcases h.2.2 with ⟨hv, h0⟩ | ⟨g, cap, cur, fz, hv, _⟩
    · rw [h0]; exact ⟨_, _, hv⟩
    · exact ⟨_, _, hv⟩
  go_enter Tryz.func61, Tryz.ntmps61
  go_wp2
  go_ret
  exact ⟨rfl, rfl⟩
/-- What the writer holds of a text: all of it, or it is over. -/
structure PW (b : Nat) (P : List UInt8) (w : World) : Prop where
  ex : ∃ p v bs, IsP b p ∧ At b p v (decide (8000 < P.length)) bs w ∧ bs.length ≤ 8000 ∧ (P.length ≤ 8000 → bs = Lib.byteCells P) ∧ (P = [] → v = .slice none 0 0)
theorem PW.below {b : Nat} {P : List UInt8} {w w' : World} (h : PW b P w) (hb : Below w.heap.size w w') : PW b P w' := by
  obtain ⟨p, v, bs, h1, h2, h3⟩ := h.ex
  exact ⟨p, v, bs, h1, h2.below hb, h3⟩
theorem PW.lt {b : Nat} {P : List UInt8} {w : World} (h : PW b P w) : b < w.heap.size := by
  obtain ⟨p, v, bs, h1, h2, h3⟩ := h.ex
  exact h2.lt
theorem PW.new (w : World) : PW w.heap.size [] (w.alloc (.cells #[.pointer none, .slice none 0 0, .bool false] 54)) :=
  ⟨.pointer none, .slice none 0 0, [], .inl rfl, ⟨World.alloc_heap_new w _, World.ownsRowF_nil _ _ _ _⟩, Nat.zero_le _, fun _ => rfl, fun _ => rfl⟩
set_option maxHeartbeats 2000000 in
set_option maxRecDepth 100000 in
theorem write (b : Nat) (P : List UInt8) (s : ByteArray) (w : World) (h : PW b P w) (hs : s.size ≤ 1048576) (h0 : s.data.toList ≠ []) :
    Calls Tryz.prog 40 #[.pointer (some ⟨b, 0, none⟩), .string s] w fun e w' => e = .returned (.tuple #[]) ∧ PW b (P ++ s.data.toList) w' ∧ Ky (b + 1) b w w' := by
  obtain ⟨p, v, bs, hp, hA, hn, hP, hv⟩ := h.ex
  have hz : s.data.toList.length = s.size := by simp
  by_cases hbig : (8000 : Int) - bs.length < (s.size : Int)
  · have HR : Hid (PW b (P ++ s.data.toList) (w.setCell ⟨b, 2, none⟩ (.bool true))) := by
      have e : decide (8000 < (P ++ s.data.toList).length) = true := decide_eq_true (by
        rw [List.length_append]
        by_cases q : P.length ≤ 8000
        · have := hP q
          rw [this, Lib.byteCells_length] at hbig
          omega
        · omega)
      refine ⟨p, v, bs, hp, ?_, hn, fun q => ?_, fun q => ?_⟩
      · rw [e]; exact hA.set2 true
      · exact absurd q (by have := of_decide_eq_true e; omega)
      · exact absurd (List.append_eq_nil_iff.1 q).2 h0
    have hL := len3 b p v _ bs w hA
    have c2 := hA.c2
    have f2 := hA.fz 2
    clear hP hv hz
    go_enter Tryz.func40, Tryz.ntmps40
    go_wp2_with fail
    refine hL.mono ?_; rintro e w1 ⟨rfl, rfl⟩
    go_wp2_with fail
    refine bodyPost_ret (results_none rfl _ _ _) rfl ?_
    exact ⟨rfl, HR.out, Ky.set _ _ _ _ _⟩
  · have hW := writeString3 b p v (decide (8000 < P.length)) bs s
    have hL := len3 b p v _ bs w hA
    have key : ∀ w' v', At b (.pointer (some ⟨b, 0, none⟩)) v' (decide (8000 < P.length)) (bs ++ Lib.strCells s) w' → Hid (PW b (P ++ s.data.toList) w') := fun w' v' hA' => by
      have hl : (bs ++ Lib.strCells s).length ≤ 8000 := by rw [List.length_append, Lib.strCells_length]; omega
      by_cases q : P.length ≤ 8000
      · have eb := hP q
        have e1 : decide (8000 < P.length) = decide (8000 < (P ++ s.data.toList).length) := by
          rw [decide_eq_decide, List.length_append]
          rw [eb, Lib.byteCells_length] at hbig
          omega
        rw [e1] at hA'
        refine ⟨_, v', _, .inr rfl, hA', hl, fun _ => ?_, fun e => absurd (List.append_eq_nil_iff.1 e).2 h0⟩
        rw [eb, Lib.strCells_eq, Lib.byteCells_append]
      · have e1 : decide (8000 < P.length) = decide (8000 < (P ++ s.data.toList).length) := by
          rw [decide_eq_true (by omega), decide_eq_true (by rw [List.length_append]; omega)]
        rw [e1] at hA'
        exact ⟨_, v', _, .inr rfl, hA', hl, fun e => absurd e (by rw [List.length_append]; omega), fun e => absurd (List.append_eq_nil_iff.1 e).2 h0⟩
    have hc : bs.length + s.size ≤ 140737488355328 := by omega
    clear hP hv hz
    go_enter Tryz.func40, Tryz.ntmps40
    go_wp2_with fail
    refine hL.mono ?_; rintro e w1 ⟨rfl, rfl⟩
    go_wp2_with fail
    refine (hW _ hA hp hc).mono ?_; rintro e w2 ⟨rfl, ⟨v', hA'⟩, k2⟩
    have HR := key w2 v' hA'
    clear key hA' hW
    go_wp2_with fail
    go_end0
    exact ⟨rfl, HR.out, k2⟩
end Go.Proofs.YtnkbjbbaoddfkaaGreatDoor.Pw
/- The patch writer's text, read. No statement is proved here. -/
set_option linter.unusedVariables false
namespace Go.Proofs.YtnkbjbbaoddfkaaGreatDoor.Pw
open Go.RowKit

theorem cellsU8 : Tryz.prog.cellsOf 5 = 1 := by kernel_rfl
set_option maxHeartbeats 1000000 in
set_option maxRecDepth 100000 in
theorem string3 (b : Nat) (p v : Value) (o : Bool) (l : List UInt8) (w : World) (h : At b p v o (Lib.byteCells l) w) (h0 : l ≠ []) :
    Calls Tryz.prog 21 #[.pointer (some ⟨b, 0, none⟩)] w fun e w' => e = .returned (.string ⟨l.toArray⟩) ∧ Below (b + 1) w w' := by
  obtain ⟨hbk, hown⟩ := h
  have hl0 : l.length ≠ 0 := by simpa using h0
  rw [Lib.byteCells_length] at hown
  obtain ⟨g, cap, cur, fz, rfl, hbg, hg, hfz, hnc, hcm, hcs, htake⟩ : ∃ g cap cur fz, v = .slice (some ⟨g, 0, none⟩) l.length cap ∧ b + 1 ≤ g ∧ w.heap[g]? = some (.cells cur 5 fz) ∧ fz.2 ≤ l.length * 1 ∧ l.length ≤ cap ∧ cap ≤ maxLen ∧ cur.size = cap * 1 ∧ cur.toList.take (l.length * 1) = Lib.byteCells l := by
    rcases hown.2 with ⟨_, hz⟩ | ⟨g, cap, cur, fz, hv, r⟩
    · exact absurd hz hl0
    · exact ⟨g, cap, cur, fz, hv, r⟩
  have c1 : w.drew.cell? ⟨b, 1, none⟩ = some (.slice (some ⟨g, 0, none⟩) l.length cap) := by
    have : w.drew.heap[b]? = some (.cells #[p, .slice (some ⟨g, 0, none⟩) l.length cap, .bool o] 54 (0, 0)) := hbk
    rw [Lib.cell_of_heap this]; rfl
  have hSD : (Builtin.unsafeSliceData_ #[22] 80 #[.slice (some ⟨g, 0, none⟩) l.length cap]).run Tryz.prog w.drew = .ok (.pointer (some ⟨g, 0, none⟩)) w.drew :=
    Lib.run_unsafeSliceData_row _ _ _ _ _ _ (by omega)
  have hUS : (Builtin.unsafeString_ #[80, 3] 9 #[.pointer (some ⟨g, 0, none⟩), .int .i64 l.length]).run Tryz.prog w.drew = .ok (.string ⟨l.toArray⟩) (w.drew.freeze ⟨g, 0, none⟩ l.length) := by
    refine Lib.run_unsafeString_row w.drew 80 3 9 5 Tryz.underlying80 cellsU8 g cur.size (by have hg' : w.drew.heap[g]? = some (.cells cur 5 fz) := hg; simp [World.shape?, hg']) l h0 (by omega) (by unfold maxLen at hcm; omega) ?_
    intro j x hx
    have := hown.cells (g := g) rfl j (.int .u8 x.toNat) (by simp [Lib.byteCells, hx])
    exact this
  have HB : Hid (Below (b + 1) w (w.drew.freeze ⟨g, 0, none⟩ l.length)) := Lib.below_freeze (Below.drew (Below.refl (b + 1) w)) (p := ⟨g, 0, none⟩) hbg _
  clear hown htake hcs hg hbk hfz
  go_enter Tryz.func21, Tryz.ntmps21
  go_wp2
  go_region
  all_goals (go_wp2; go_ret; exact ⟨rfl, HB.out⟩)
set_option maxHeartbeats 1000000 in
set_option maxRecDepth 100000 in
theorem stringNil (b : Nat) (p : Value) (o : Bool) (w : World) (h : At b p (.slice none 0 0) o [] w) :
    Calls Tryz.prog 21 #[.pointer (some ⟨b, 0, none⟩)] w fun e w' => e = .returned (.string ⟨#[]⟩) ∧ Below (b + 1) w w' := by
  have hUS : ∀ W q, (Builtin.unsafeString_ #[80, 3] 9 #[.pointer q, .int .i64 0]).run Tryz.prog W = .ok (.string .empty) W := fun W q => Lib.run_unsafeString_none W _ _ _ q
  have c1 : w.drew.cell? ⟨b, 1, none⟩ = some (.slice none 0 0) := by
    have : w.drew.heap[b]? = some (.cells #[p, .slice none 0 0, .bool o] 54 (0, 0)) := h.1
    rw [Lib.cell_of_heap this]; rfl
  have hSD : (Builtin.unsafeSliceData_ #[22] 80 #[.slice none 0 0]).run Tryz.prog w.drew = .ok (.pointer none) w.drew := rfl
  go_enter Tryz.func21, Tryz.ntmps21
  go_wp2
  go_region
  all_goals (go_wp2; go_ret; exact ⟨rfl, Below.drew (Below.refl (b + 1) w)⟩)
end Go.Proofs.YtnkbjbbaoddfkaaGreatDoor.Pw
