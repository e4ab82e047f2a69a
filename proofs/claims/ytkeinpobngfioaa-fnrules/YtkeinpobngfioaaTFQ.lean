/- The contract of impl.TextFault. No statement is proved here. -/
import Derived.Test.YtkeinpobngfioaaIterQ
namespace Go.Proofs.Ytkeinpobngfioaa
open Go.RowKit Go.Shelf
attribute [local go_sem] Oper.semAt_some

/-- The fault of a text. -/
def tf (s : ByteArray) : Int := if 2000 < (s.size : Int) ∨ 100 < ((linesOf s).length : Int) then 2 else 0
theorem tf_many {s : ByteArray} (h : 2000 < (s.size : Int) ∨ 100 < ((linesOf s).length : Int)) : tf s = 2 := if_pos h
theorem tf_ok {s : ByteArray} (h : ¬ (2000 < (s.size : Int) ∨ 100 < ((linesOf s).length : Int))) : tf s = 0 := if_neg h
theorem lines_le (s : ByteArray) : (linesOf s).length ≤ s.size := by
  have := spl_length (s.data.toList.drop 0)
  unfold linesOf linesFrom
  rw [List.length_map]
  rw [List.drop_zero, size_eq] at this
  simpa using this
theorem cell_of_box {W : World} {B : Nat} {v : Value} {t : TypeId} (h : W.heap[B]? = some (.cells #[v] t (0, 0))) : W.cell? ⟨B, 0, none⟩ = some v ∧ W.frozen? ⟨B, 0, none⟩ = false := by
  constructor <;> simp [World.cell?, World.frozen?, h]
theorem cell_new (W : World) (v : Value) (t : TypeId) : (W.alloc (.cells #[v] t)).cell? ⟨W.heap.size, 0, none⟩ = some v ∧ (W.alloc (.cells #[v] t)).frozen? ⟨W.heap.size, 0, none⟩ = false :=
  cell_of_box (World.alloc_heap_new W _)
theorem cell_alloc' {W : World} {a : Addr} {v : Value} (o : Obj) (h : W.cell? a = some v) : (W.alloc o).cell? a = some v := cell_kept h (World.grownBy_alloc W o none) (fun r e => by cases e)
theorem frozen_alloc' {W : World} {a : Addr} {v : Value} (o : Obj) (h : W.cell? a = some v) (hf : W.frozen? a = false) : (W.alloc o).frozen? a = false := (frozen_kept h (World.grownBy_alloc W o none) (fun r e => by cases e)).trans hf

set_option maxRecDepth 100000 in
set_option maxHeartbeats 2000000 in
theorem implTextFault (s : ByteArray) (w : World) (hs : s.size ≤ 1048576) :
    Calls Try.prog 17 #[.string s] w fun e w' => e = .returned (.int .i64 (tf s)) ∧ Below w.heap.size w w' := by
  by_cases hbig : 2000 < (s.size : Int)
  · have hT : Hid (tf s = 2) := tf_many (Or.inl hbig)
    go_enter Try.func17, Try.ntmps17
    go_wp2
    go_ret
    exact ⟨ret_int hT.out.symm, Below.refl _ _⟩
  · refine (callsIn_wide (n := 5)).1 ?_
    refine callsIn_of_wp_marks Try.func17 rfl trivial ?_ rfl
    simp only [Try.ntmps17, List.size_toArray, List.length_cons, List.length_nil, Nat.reduceAdd, Nat.reduceSub, Array.replicate_succ, Array.replicate_zero, List.push_toArray, List.append_toArray, List.nil_append, List.cons_append]
    gi_wp2_with (refine ⟨trivial, ?_⟩; gi_at_call 34; refine (callsIn_wide.2 (linesIn_any _ _)).mono ?_; rintro e w' ⟨rfl, rfl⟩)
    have hll := lines_le s
    have hcnt := cell_new w (.int .i64 0) 3
    have hbx : ((w.alloc (.cells #[.int .i64 0] 3)).alloc (.cells #[.string s] 9)).heap[w.heap.size + 1]? = some (.cells #[.string s] 9 (0, 0)) := by
      have := World.alloc_heap_new (w.alloc (.cells #[.int .i64 0] 3)) (.cells #[.string s] 9)
      rwa [World.size_alloc] at this
    have hB0 : Below w.heap.size w ((w.alloc (.cells #[.int .i64 0] 3)).alloc (.cells #[.string s] 9)) := ((Below.refl _ w).alloc (Nat.le_refl _) _).alloc (by simp) _
    refine wpIn_rangeFunc_ownF rfl (by omega) (gf := 44) (lb := #[.pointer (some ⟨w.heap.size + 1, 0, none⟩)]) rfl trivial (enters_of Try.func44 (by kernel_rfl) rfl)
      (lines_stops _ (by omega) (w.heap.size + 1) s hs _ (by simp) hbx) keepB_t (keepB_b (by simp)) (Below.refl _ _) (fun _ => rfl)
      (fun pre W => (W.cell? ⟨w.heap.size, 0, none⟩ = some (.int .i64 pre.length) ∧ W.frozen? ⟨w.heap.size, 0, none⟩ = false) ∧ Below w.heap.size w W)
      (fun _ _ _ => False)
      (OwnFrom.and (Own.from (fun s A B row hs hg hr => ⟨cell_kept hs.1 hg hr, (frozen_kept hs.1 hg hr).trans hs.2⟩) _) (ownFrom_below (Nat.le_refl _) (by simp; omega)))
      (fun _ _ _ _ _ hs _ _ => hs)
      ⟨⟨cell_alloc' _ hcnt.1, frozen_alloc' _ hcnt.1 hcnt.2⟩, hB0⟩
      (fun x => { tmps := #[.string s, undef, .int .i64 0, .pointer (some ⟨w.heap.size, 0, none⟩), .string s, .int .i64 s.size, .bool false, .string s, .func (.func 44) #[] #[.pointer (some ⟨w.heap.size + 1, 0, none⟩)], .string x, undef, undef, undef, undef], defers := [] }) ?assign ?body ?done ?stop
    case assign =>
      intro l x W K hK
      gi_wp2
      simpa using hK
    case body =>
      rintro l pre x W ⟨⟨hc, hf⟩, hB⟩ hlen
      have hb : (pre.length : Int) < 2000 := by omega
      gi_wp2
      refine ⟨KeepsOthers.setCell _ _ _, ?_, ⟨?_, ?_⟩, hB.setCell (p := ⟨w.heap.size, 0, none⟩) (Nat.le_refl _) _⟩
      · exact Below.heap_setCell _ _ _ _ (by simp)
      · rw [World.cell?_setCell_same' _ _ _ (by rw [hc]; rfl)]; simp
      · rw [World.frozen?_setCell]; exact hf
    case done =>
      rintro D ys W hD rfl ⟨⟨hc, _⟩, hB⟩ hK
      have hBD := hB.trans (belowK_b (w := w) (Nat.le_refl _) W D _ (.deferred none) (by simp at hD; omega) hK rfl rfl)
      by_cases hmany : 100 < ((linesOf s).length : Int)
      · have hT : Hid (tf s = 2) := tf_many (Or.inr hmany)
        gi_wp2
        refine ⟨by simp, .inl ⟨_, _, rfl, run_takeDeferred hK, ?_⟩⟩
        refine ⟨_, results_tmp rfl _ _ _, ?_, hBD⟩
        exact ret_int hT.out.symm
      · have hT : Hid (tf s = 0) := tf_ok (by omega)
        gi_wp2
        refine ⟨by simp, .inl ⟨_, _, rfl, run_takeDeferred hK, ?_⟩⟩
        refine ⟨_, results_tmp rfl _ _ _, ?_, hBD⟩
        exact ret_int hT.out.symm
    case stop =>
      rintro D c pre W _ _ h _
      exact h.elim
end Go.Proofs.Ytkeinpobngfioaa
