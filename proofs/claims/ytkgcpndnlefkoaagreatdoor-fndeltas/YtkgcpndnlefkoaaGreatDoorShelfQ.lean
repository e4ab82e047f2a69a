/- Contracts of the library that are laid at this program: Tryz.stringslite_Clone. No statement is proved here. -/
import Derived.Shelf.Small.Bits
import Derived.Shelf.Small.Strs
import Derived.Shelf.Strconv.Itoa0
import Derived.Shelf.LaysM
import Derived.Shelf.Strconv.Clone
import Derived.Shelf.Strings.Search1
import Derived.Shelf.Strings.Search2
import Derived.Shelf.Strings.Search3
import Derived.Shelf.Strings.Shaped
import Derived.Shelf.Sort.Plain
import Derived.Shelf.Unicode.Decode
import Derived.Shelf.Unicode.DecodeSlow
import Derived.Shelf.Unicode.DecodeAny
import Derived.Shelf.Slices.CompactS
import Derived.Shelf.Slices.Cells
import Derived.Shelf.Slices.In.SortNone
import Derived.Test.YtkgcpndnlefkoaaGreatDoorProg
import Derived.Test.YtkgcpndnlefkoaaGreatDoorRows
import Derived.Test.YtkgcpndnlefkoaaGreatDoorLemQ
import Derived.Test.YtkgcpndnlefkoaaGreatDoorDTabQ
import Derived.WalkKit
import Derived.ProofKit
import Derived.Below
import Derived.WalkSpells
import Derived.Maps.AppendAt
import Derived.Test.YtkgcpndnlefkoaaGreatDoorInQ
import Derived.Deep.QuietTactic
import Derived.BigQuiet
import Derived.Deep.RegionWith
import Derived.Deep.RegionHeld
import Derived.Deep.CutRange
import Derived.Laws.Cover1
namespace Go.Proofs
open Go.Shelf
def Tryz.laysM316_ren : Go.Shelf.Ren := ⟨fun | 316 => 35 | n => n, fun | 9 => 9 | 3 => 3 | 4 => 4 | 37 => 22 | 0 => 0 | 127 => 89 | 5 => 5 | n => n, fun | n => n⟩
theorem Tryz.laysM316 : Go.Proofs.LaysM.n316 Tryz.prog Tryz.laysM316_ren := {
  mixed := by kernel_rfl
  f316 := Tryz.func35.trans (congrArg some (by kernel_rfl))
  t0 := Tryz.underlying0
  a0 := Tryz.isAgg0
  z0 := Tryz.sizeOf0
  v0 := Tryz.zeroValue0
  t3 := Tryz.underlying3
  a3 := Tryz.isAgg3
  z3 := Tryz.sizeOf3
  v3 := Tryz.zeroValue3
  t4 := Tryz.underlying4
  a4 := Tryz.isAgg4
  z4 := Tryz.sizeOf4
  v4 := Tryz.zeroValue4
  t9 := Tryz.underlying9
  a9 := Tryz.isAgg9
  z9 := Tryz.sizeOf9
  v9 := Tryz.zeroValue9
  t37 := Tryz.underlying22
  a37 := Tryz.isAgg22
  z37 := Tryz.sizeOf22
  v37 := Tryz.zeroValue22
  t127 := Tryz.underlying89
  a127 := Tryz.isAgg89
  z127 := Tryz.sizeOf89
  v127 := Tryz.zeroValue89
  t5 := Tryz.underlying5
  a5 := Tryz.isAgg5
  z5 := Tryz.sizeOf5
  v5 := Tryz.zeroValue5
  i0 := by kernel_rfl
  i3 := by kernel_rfl
  i4 := by kernel_rfl
  i5 := by kernel_rfl
  i9 := by kernel_rfl
  i37 := by kernel_rfl
  i127 := by kernel_rfl }
open Go.RowKit in
theorem Tryz.stringslite_Clone (s : ByteArray) (w : World) (hlim : s.size ≤ 281474976710656) :
    Calls Tryz.prog 35 #[.string s] w fun e w' => e = .returned (.string s) ∧ Below w.heap.size w w' := Any.stringslite_Clone Tryz.laysM316 s w hlim
end Go.Proofs
/- The contract of impl.appendCopies: lines that are copied behind others. No statement is proved here. -/
namespace Go.Proofs.YtkgcpndnlefkoaaGreatDoor
open Go.ChangeShapes Go.WideShapes Go.ChangeAt Go.RowKit

theorem cloneS (s : ByteArray) (w : World) (hlim : s.size ≤ 281474976710656) :
    Calls Tryz.prog 15 #[.string s] w fun e w' => e = .returned (.string s) ∧ Below w.heap.size w w' := by
  go_enter Tryz.func15, Tryz.ntmps15
  go_wp2_with (go_at_call 35; refine (Tryz.stringslite_Clone _ _ hlim).mono ?_; rintro e w' ⟨rfl, hb⟩)
  go_ret
  exact ⟨rfl, hb⟩
theorem take_map_snoc (ss ms : List ByteArray) (k : Nat) (h : k < ms.length) : (ss ++ ms.take (k + 1)).map Value.string = (ss ++ ms.take k).map Value.string ++ [.string (ms.getD k ByteArray.empty)] := by
  rw [List.take_succ_eq_append_getElem h, ← List.append_assoc, List.map_append, getD_at ms k h]; rfl
theorem grownNew {a b c : World} {row row' : Option Nat} (h : a.grownBy b row) (g : b.grownBy c row') (hr : ∀ j, row' = some j → row = some j ∨ a.heap.size ≤ j) : a.grownBy c row :=
  ⟨g.os.trans h.os, g.tape.trans h.tape, g.output.trans h.output, Nat.le_trans h.size g.size, fun k hk hne => (g.block k (Nat.lt_of_lt_of_le hk h.size) (fun e => by
    rcases hr k e.symm with h' | h'
    · exact hne h'.symm
    · omega)).trans (h.block k hk hne)⟩
/-- A row of the lines zs; of the old blocks the old row's alone may have turned. -/
def CopiesPost (base n : Nat) (v : Value) (zs : List ByteArray) (w : World) (e : Ending) (w' : World) : Prop := ∃ v', e = .returned v' ∧ w'.ownsRow base 9 1 v' n (zs.map Value.string) ∧ w.grownBy w' v.ownBlock ∧ ∀ j, v'.ownBlock = some j → v.ownBlock = some j ∨ w.heap.size ≤ j

theorem segSSB {B : Nat} {w : World} {a : Option Addr} {xs : List ByteArray} (h : SSB B w a xs) (i j c : Nat) (h1 : i ≤ j) (h2 : j ≤ xs.length) (hc : xs.length ≤ c) :
    SSB B w (if c = i then a else a.map (·.add i)) ((xs.drop i).take (j - i)) := by
  have hl : ((xs.drop i).take (j - i)).length = j - i := by rw [List.length_take, List.length_drop]; omega
  have hg : ∀ k, k < j - i → ((xs.drop i).take (j - i)).getD k ByteArray.empty = xs.getD (i + k) ByteArray.empty := by
    intro k hk
    simp [List.getD, hk]
  refine ⟨fun k hk => ?_, fun k hk => ?_⟩
  · rw [hl] at hk
    rw [hg k hk]; exact h.1 (i + k) (by omega)
  · rw [hl] at hk
    obtain ⟨b, off, e, hb, hcell⟩ := h.2 (i + k) (by omega)
    subst e
    refine ⟨b, off + i, ?_, hb, ?_⟩
    · rw [if_neg (by omega), Option.map_some, add_plain]
    · rw [hg k hk, Nat.add_assoc]; exact hcell
theorem seg_small {xs : List ByteArray} {Z : Nat} (hz : ∀ x ∈ xs, x.size ≤ Z) (i j : Nat) : ∀ k, k < ((xs.drop i).take (j - i)).length → (((xs.drop i).take (j - i)).getD k ByteArray.empty).size ≤ Z := by
  intro k hk
  rw [getD_at _ k hk]
  exact hz _ (List.mem_of_mem_drop (List.mem_of_mem_take (List.getElem_mem hk)))
end Go.Proofs.YtkgcpndnlefkoaaGreatDoor
/- The contract of impl.cloneFile. No statement is proved here. -/
namespace Go.Proofs.YtkgcpndnlefkoaaGreatDoor.Fl
open Go.ChangeShapes Go.WideShapes Go.ChangeAt Go.RowKit
theorem setCell_id {w : World} {b i : Nat} {v : Value} (h : w.cell? ⟨b, i, none⟩ = some v) : w.setCell ⟨b, i, none⟩ v = w := by
  have hh : (w.setCell ⟨b, i, none⟩ v).heap = w.heap := by
    apply Array.ext_getElem?
    intro k
    by_cases e : b = k
    · subst e
      cases ho : w.heap[b]? with
      | none => simp [World.setCell, Array.getElem?_modify, ho]
      | some o =>
        cases o with
        | cells c t fr =>
          have hc : c[i]? = some v := by simpa [World.cell?, ho] using h
          have hs : c.setIfInBounds i v = c := by
            apply Array.ext_getElem?
            intro j
            rw [Array.getElem?_setIfInBounds]
            by_cases q : i = j
            · subst q
              rw [if_pos rfl, hc, if_pos (Array.getElem?_eq_some_iff.1 hc).1]
            · rw [if_neg q]
          simp [World.setCell, Array.getElem?_modify, ho, hs]
        | _ => simp [World.setCell, Array.getElem?_modify, ho]
    · simp [World.setCell, Array.getElem?_modify, e]
  cases w
  simp only [World.setCell] at hh ⊢
  rw [hh]
set_option maxRecDepth 20000 in
set_option maxHeartbeats 4000000 in
theorem cloneFileC (o : Ob) (w : World) (h0 : o.1.size ≤ 1048576) (h2 : o.2.2.size ≤ 1048576) : Calls Tryz.prog 16 #[.agg #[.string o.1, .int .i64 o.2.1, .string o.2.2]] w fun e w' => e = .returned (.agg #[.string o.1, .int .i64 o.2.1, .string o.2.2]) ∧ Below w.heap.size w w' := by
  obtain ⟨x0, x1, x2⟩ := o
  simp only [] at h0 h2 ⊢
  have hC0 := fun W => cloneS x0 W (by omega)
  have hC2 := fun W => cloneS x2 W (by omega)
  obtain ⟨W, hW⟩ : ∃ W, (w.alloc (.cells #[.string x0, .int .i64 x1, .string x2] 42)).alloc (.cells #[.string ⟨#[]⟩, .int .i64 0, .string ⟨#[]⟩] 42) = W := ⟨_, rfl⟩
  have B : Below w.heap.size w W := by rw [← hW]; exact ((Below.refl _ _).alloc (Nat.le_refl _) _).alloc (by simp) _
  have z1 : w.heap.size + 1 < W.heap.size := by rw [← hW]; simp
  have ra : Rf (w.alloc (.cells #[.string x0, .int .i64 x1, .string x2] 42)) w.heap.size [.string x0, .int .i64 x1, .string x2] := Rf.new _ _ _
  have ra : Rf W w.heap.size [.string x0, .int .i64 x1, .string x2] := by rw [← hW]; exact ra.below (by simp) (allocBelow _ _)
  have rb : Rf W (w.heap.size + 1) [.string ⟨#[]⟩, .int .i64 0, .string ⟨#[]⟩] := by
    have q : Rf ((w.alloc (.cells #[.string x0, .int .i64 x1, .string x2] 42)).alloc (.cells #[.string ⟨#[]⟩, .int .i64 0, .string ⟨#[]⟩] 42)) (w.alloc (.cells #[.string x0, .int .i64 x1, .string x2] 42)).heap.size [.string ⟨#[]⟩, .int .i64 0, .string ⟨#[]⟩] := Rf.new _ _ _
    rw [hW, World.size_alloc] at q
    exact q
  have fin : ∀ V, Below W.heap.size W V → Hid (V.setCell ⟨w.heap.size, 0, none⟩ (.string x0) = V ∧ V.setCell ⟨w.heap.size, 2, none⟩ (.string x2) = V ∧ Rf V w.heap.size [.string x0, .int .i64 x1, .string x2] ∧ Rf V (w.heap.size + 1) [.string ⟨#[]⟩, .int .i64 0, .string ⟨#[]⟩] ∧ Below w.heap.size w V) := fun V b => by
    have r1 := ra.below (by omega) b
    have r2 := rb.below (by omega) b
    exact ⟨setCell_id (r1.at_ 0 _ rfl), setCell_id (r1.at_ 2 _ rfl), r1, r2, B.trans (b.mono B.size)⟩
  have FIN : Hid (∀ V, Below W.heap.size W V → Hid (V.setCell ⟨w.heap.size, 0, none⟩ (.string x0) = V ∧ V.setCell ⟨w.heap.size, 2, none⟩ (.string x2) = V ∧ Rf V w.heap.size [.string x0, .int .i64 x1, .string x2] ∧ Rf V (w.heap.size + 1) [.string ⟨#[]⟩, .int .i64 0, .string ⟨#[]⟩] ∧ Below w.heap.size w V)) := fin
  clear fin
  have c0 := ra.at_ 0 _ rfl
  have c2 := ra.at_ 2 _ rfl
  clear ra rb B z1
  go_enter Tryz.func16, Tryz.ntmps16
  go_wp2_with fail
  go_cut [] from 3 to 11 (fun wx => Below W.heap.size W wx)
  case first =>
    have BD : Below W.heap.size W W.drew := (Below.refl _ _).drew
    go_region_held (fun w' => w'.cell? ⟨w.heap.size, 0, none⟩ = some (.string x0) ∧ w'.cell? ⟨w.heap.size, 2, none⟩ = some (.string x2)) (first | with_reducible exact ⟨c0, c2⟩ | with_reducible exact ⟨d0, d2⟩ | with_reducible exact ⟨e0, e2⟩ | exact ⟨c0, c2⟩)
      ((first
        | (go_at_call 15; have gd := B1; clear gd; refine (hC2 _).mono ?_; rintro e w2 ⟨rfl, b2⟩; have B2 := B1.trans (b2.mono B1.size); obtain ⟨s20, s22, t2, _, _⟩ := (FIN.out w2 B2).out; have e0 := t2.at_ 0 _ rfl; have e2 := t2.at_ 2 _ rfl; have f20 := t2.fz 0; have f22 := t2.fz 2; clear t2)
        | (go_at_call 15; refine (hC0 _).mono ?_; rintro e w1 ⟨rfl, b1⟩; have B1 := BD.trans b1; obtain ⟨s10, s12, t1, _, _⟩ := (FIN.out w1 B1).out; have d0 := t1.at_ 0 _ rfl; have d2 := t1.at_ 2 _ rfl; have f10 := t1.fz 0; have f12 := t1.fz 2; clear t1)))
    all_goals (go_wp2_with fail; go_meet; exact B2)
  case rest =>
  obtain ⟨_, _, t1, t2, B2⟩ := (FIN.out _ hcut).out
  have c0 := t1.at_ 0 _ rfl
  have c1 := t1.at_ 1 _ rfl
  have c2 := t1.at_ 2 _ rfl
  have g0 := t2.at_ 0 _ rfl
  have g1 := t2.at_ 1 _ rfl
  have g2 := t2.at_ 2 _ rfl
  have k0 := t2.fz 0
  have k1 := t2.fz 1
  have k2 := t2.fz 2
  have tS := ((t2.set (o := 0) (by simp) (.string x0)).set (o := 1) (by simp) (.int .i64 x1)).set (o := 2) (by simp) (.string x2)
  have BV := ((B2.setCell (p := ⟨w.heap.size + 1, 0, none⟩) (Nat.le_succ _) (.string x0)).setCell (p := ⟨w.heap.size + 1, 1, none⟩) (Nat.le_succ _) (.int .i64 x1)).setCell (p := ⟨w.heap.size + 1, 2, none⟩) (Nat.le_succ _) (.string x2)
  obtain ⟨V, hV⟩ : ∃ V, ((wc.setCell ⟨w.heap.size + 1, 0, none⟩ (.string x0)).setCell ⟨w.heap.size + 1, 1, none⟩ (.int .i64 x1)).setCell ⟨w.heap.size + 1, 2, none⟩ (.string x2) = V := ⟨_, rfl⟩
  rw [hV] at tS BV
  have v0 := tS.at_ 0 _ rfl
  have v1 := tS.at_ 1 _ rfl
  have v2 := tS.at_ 2 _ rfl
  have HV : Hid (_ = V) := hV
  clear FIN t1 t2 hcut hC0 hC2 tS hV B2
  go_wp2
  rw [HV.out]
  refine bodyPost_ret (v := .agg #[.string x0, .int .i64 x1, .string x2]) (by simp [results, Tryz.results16, go_sem, v0, v1, v2]) rfl ⟨rfl, BV⟩
end Go.Proofs.YtkgcpndnlefkoaaGreatDoor.Fl
