/- The text of a commit is never too long. No statement is proved here. -/
import Derived.Test.YtijphomojljckaaGreatDoorRows
import Derived.Test.YtijphomojljckaaGreatDoorLemQ
import Derived.Test.YtijphomojljckaaGreatDoorLFLemQ
import Derived.Test.YtijphomojljckaaGreatDoorIterQ
import Derived.Test.YtijphomojljckaaGreatDoorJnCQ
import Derived.Test.YtijphomojljckaaGreatDoorInQ
import Derived.Test.YtijphomojljckaaGreatDoorIdLQ
import Derived.Test.YtijphomojljckaaGreatDoorTrCQ
import Derived.Test.YtijphomojljckaaGreatDoorNtCQ
import Derived.Test.YtijphomojljckaaGreatDoorFpSQ
import Derived.Test.YtijphomojljckaaGreatDoorWcCQ
import Derived.Test.YtijphomojljckaaGreatDoorComQ
import Derived.Test.YtijphomojljckaaGreatDoorHkTQ
import Derived.Test.YtijphomojljckaaGreatDoorTeLQ
import Derived.Test.YtijphomojljckaaGreatDoorBldGQ
import Derived.Test.YtijphomojljckaaGreatDoorCfSQ
import Derived.Test.YtijphomojljckaaGreatDoorAsCQ
import Derived.Stop.Asserts
import Derived.WalkKit
import Derived.ProofKit
import Derived.Below
import Derived.WalkSpells
import Derived.Deep.RegionWith
import Derived.Deep.QuietTactic
import Derived.BigQuiet
namespace Go.Proofs.YtijphomojljckaaGreatDoor
open Go.RowKit

theorem spl_cons {c : UInt8} (l : List UInt8) (h : ¬ c = 10) : (spl (c :: l)).length = max 1 (spl l).length := by
  rw [spl, if_neg h]
  split
  · rename_i e; rw [e]; rfl
  · rename_i x xs e; rw [e]; simp
theorem spl_app (a b : List UInt8) : (spl (a ++ b)).length ≤ (spl a).length + (spl b).length := by
  induction a with
  | nil => simp [spl]
  | cons c a ih =>
    by_cases hc : c = 10
    · rw [List.cons_append, spl, if_pos hc, spl, if_pos hc]
      simp
      omega
    · rw [List.cons_append, spl_cons _ hc, spl_cons _ hc]
      omega
theorem wl2 (x y : ByteArray) : wl [x, y] = (x.data.toList ++ 32 :: y.data.toList) ++ [10] := by
  unfold wl jnB
  show (jl [x, y] 1) ++ [10] = _
  simp [jl]
theorem nt_no10 {s : ByteArray} (h : nt s = true) : ¬ (10 : UInt8) ∈ s.data.toList := fun hm => by
  obtain ⟨k, hk, e⟩ := List.mem_iff_getElem.1 hm
  have hk' : k < s.size := by simpa using hk
  have := ((of_decide_eq_true h).2 k hk').1
  have e' : s[k] = 10 := e
  rw [e'] at this
  exact absurd this (by decide)
theorem note_line {no : ByteArray} (h : nt no = true) : (spl (wl [wNote, no])).length ≤ 1 := by
  have h10 : ¬ (10 : UInt8) ∈ wNote.data.toList ++ 32 :: no.data.toList := fun hm => by
    rcases List.mem_append.1 hm with q | q
    · revert q; decide
    · rcases List.mem_cons.1 q with q | q
      · revert q; decide
      · exact nt_no10 h q
  rw [wl2, spl_feed _ [] h10]
  simp [spl]
theorem tf_commit {t : ByteArray} {ps : List ByteArray} {tm : Int} {no : ByteArray} (h0 : hd t ps = 0) (ht : inB tm 0 1000000000 = true) (hno : nt no = true) : tf ⟨(cmL t ps tm no).toArray⟩ = 0 := by
  obtain ⟨x1, x2, x3⟩ := hd_zero h0
  obtain ⟨q1, q2⟩ := inB_lo ht
  have y0 := Te.isOf_size x1
  have y2 : ∀ k, k < ps.length → (ps.getD k ByteArray.empty).size = 5 := fun k hk => Te.isOf_size (x3 k hk).1
  have hl := cmP_len y0 y2 ps.length (Nat.le_refl _)
  rw [List.take_length] at hl
  have yi := it_size q1 q2
  have yn := nt_size hno
  have a1 : (cmP t ps ++ wl [wTime, itB tm]).length ≤ 66 := by
    rw [List.length_append, wl2_len]
    have : wTime.size = 4 := rfl
    omega
  have a2 := spl_length (cmP t ps ++ wl [wTime, itB tm])
  have a3 := note_line hno
  have a4 := spl_app (cmP t ps ++ wl [wTime, itB tm]) (wl [wNote, no])
  have a5 : (cmL t ps tm no).length ≤ 132 := by
    unfold cmL
    rw [List.length_append, wl2_len]
    have : wNote.size = 4 := rfl
    omega
  refine tf_ok ?_
  rintro (q | q)
  · have : (⟨(cmL t ps tm no).toArray⟩ : ByteArray).size = (cmL t ps tm no).length := by
      show (cmL t ps tm no).toArray.size = _
      simp
    omega
  · have : (linesOf ⟨(cmL t ps tm no).toArray⟩).length = (spl (cmL t ps tm no)).length := by
      unfold linesOf linesFrom
      simp
    rw [this] at q
    have : (spl (cmL t ps tm no)).length ≤ 67 := by
      unfold cmL
      omega
    omega
end Go.Proofs.YtijphomojljckaaGreatDoor
/- The contract of the program's encode, at a commit, and of CommitFault. No statement is proved here. -/
namespace Go.Proofs.YtijphomojljckaaGreatDoor
open Go.ChangeShapes Go.WideShapes Go.ChangeAt Go.RowKit

theorem noTree (v : Value) (xT : TypeId) (w : World) : (Instr.typeAssert (.iface 60 v) xT 54 true).run Tryz.prog w = .ok (.tuple #[.slice none 0 0, .bool false]) w := by kernel_rfl
theorem isCommit (v : Value) (xT : TypeId) (w : World) : (Instr.typeAssert (.iface 60 v) xT 60 true).run Tryz.prog w = .ok (.tuple #[v, .bool true]) w := by kernel_rfl
def cmB (t : ByteArray) (ps : List ByteArray) (tm : Int) (no : ByteArray) : ByteArray := ⟨(cmL t ps tm no).toArray⟩
theorem cmF_zero {t : ByteArray} {ps : List ByteArray} {tm : Int} {no : ByteArray} (h : cmF t ps tm no = 0) : hd t ps = 0 ∧ inB tm 0 1000000000 = true ∧ nt no = true := by
  by_cases h0 : hd t ps = 0
  · cases ht : inB tm 0 1000000000 with
    | false => rw [cmF_time h0 ht] at h; omega
    | true =>
      cases hn : nt no with
      | false => rw [cmF_note h0 ht hn] at h; omega
      | true => exact ⟨h0, rfl, rfl⟩
  · rw [cmF_head h0] at h; exact absurd h h0
/-- What encode answers. -/
def EC (t : ByteArray) (ps : List ByteArray) (tm : Int) (no : ByteArray) (e : Ending) : Prop :=
  (cmF t ps tm no = 0 ∧ e = .returned (.tuple #[.string (cmB t ps tm no), .nilIface])) ∨ (¬ cmF t ps tm no = 0 ∧ e = .returned (.tuple #[.string ⟨#[]⟩, .iface 78 (.agg #[.int .i64 (cmF t ps tm no)])]))
theorem ec_fault {t : ByteArray} {ps : List ByteArray} {tm : Int} {no : ByteArray} {c : Int} (h : cmF t ps tm no = c) (hc : ¬ c = 0) : EC t ps tm no (.returned (.tuple #[.string ⟨#[]⟩, .iface 78 (.agg #[.int .i64 c])])) := by
  subst h
  exact .inr ⟨hc, rfl⟩
theorem writeCommit (b : Nat) (t : ByteArray) (a : Option Addr) (c : Nat) (ps : List ByteArray) (tm : Int) (no : ByteArray) (w : World) (hb : w.heap[b]? = some (.cells #[.pointer none, .slice none 0 0] 97 (0, 0))) (hbw : b < w.heap.size) (h : SSB b w a ps) (hc : ps.length ≤ c) (hn : ps.length ≤ 1048576) (hT : TaG w) (hgB : 6 < b) :
    Calls Tryz.prog 48 #[.pointer (some ⟨b, 0, none⟩), .agg #[.string t, .slice a ps.length c, .int .i64 tm, .string no]] w fun e w' => WC b t ps tm no w e w' := by
  by_cases hf : cmF t ps tm no = 0
  · obtain ⟨h0, h1, h2⟩ := cmF_zero hf
    refine (writeCommit_ok b t a c ps tm no w hb hbw h hc hT hgB h0 h1 h2).mono ?_
    rintro e w' ⟨rfl, T, B⟩
    exact ⟨B, .inl ⟨hf, rfl, T⟩⟩
  · exact writeCommit_faults b t a c ps tm no w hbw (h.toSS (by omega)) hc hn hf

set_option maxRecDepth 20000 in
set_option maxHeartbeats 2000000 in
theorem encodeCommit (t : ByteArray) (a : Option Addr) (c : Nat) (ps : List ByteArray) (tm : Int) (no : ByteArray) (w : World) (h : SS w a ps) (hc : ps.length ≤ c) (hn : ps.length ≤ 1048576) (hTa : TaG w) (hgB : 6 < w.heap.size) :
    Calls Tryz.prog 23 #[.iface 60 (.agg #[.string t, .slice a ps.length c, .int .i64 tm, .string no])] w fun e w' => Below w.heap.size w w' ∧ EC t ps tm no e := by
  have hA0 := fun xT w => noTree (.agg #[.string t, .slice a ps.length c, .int .i64 tm, .string no]) xT w
  have hA := fun xT w => isCommit (.agg #[.string t, .slice a ps.length c, .int .i64 tm, .string no]) xT w
  obtain ⟨W1, hW1⟩ : ∃ W, w.alloc (.cells #[.pointer none, .slice none 0 0] 97) = W := ⟨_, rfl⟩
  have b1 : Below w.heap.size w W1 := by rw [← hW1]; exact allocBelow _ _
  have hh1 : W1.heap[w.heap.size]? = some (.cells #[.pointer none, .slice none 0 0] 97 (0, 0)) := by rw [← hW1]; exact heap_alloc_new w _
  have z1 : w.heap.size < W1.heap.size := by rw [← hW1]; simp
  obtain ⟨W2, hW2⟩ : ∃ W, W1.alloc (.cells #[.string t, .slice a ps.length c, .int .i64 tm, .string no] 60) = W := ⟨_, rfl⟩
  have b2 : Below W1.heap.size W1 W2 := by rw [← hW2]; exact allocBelow _ _
  have r2 : Rf W2 W1.heap.size [.string t, .slice a ps.length c, .int .i64 tm, .string no] := by rw [← hW2]; exact Rf.new _ _ _
  have c0 := r2.at_ 0 _ rfl
  have c1 := r2.at_ 1 _ rfl
  have c2 := r2.at_ 2 _ rfl
  have c3 := r2.at_ 3 _ rfl
  have B12 : Below w.heap.size w W2 := b1.trans (b2.mono b1.size)
  have hS2 : SSB w.heap.size W2 a ps := h.toB.below B12
  have hW := writeCommit w.heap.size t a c ps tm no W2 ((b2.block _ z1).trans hh1) (by have := b2.size; omega) hS2 hc hn (hTa.below B12 hgB) hgB
  clear r2 hh1 z1 b1 b2 hS2
  go_enter Tryz.func23, Tryz.ntmps23
  go_wp2_with fail
  refine hW.mono ?_
  rintro e w2 ⟨b2, he⟩
  have B2 : Below w.heap.size w w2 := B12.trans b2
  clear c0 c1 c2 c3 b2 B12 hW
  rcases he with ⟨h0, rfl, T2⟩ | ⟨h0, rfl⟩
  · clear hW1 hW2 hA hA0
    obtain ⟨k0, k1, k2⟩ := cmF_zero h0
    have hsB : (cmB t ps tm no).size ≤ 1048576 ∧ tf (cmB t ps tm no) = 0 := by
      have htf : tf (cmB t ps tm no) = 0 := tf_commit k0 k1 k2
      refine ⟨?_, htf⟩
      by_cases hbig : 2000 < ((cmB t ps tm no).size : Int)
      · rw [tf_many (Or.inl hbig)] at htf; omega
      · omega
    have hS := bString w.heap.size w.heap.size (cmL t ps tm no) w2 T2 B2.size
    go_wp2_with fail
    refine hS.mono ?_
    rintro e w3 ⟨rfl, T3, b3⟩
    have B3 : Below w.heap.size w w3 := B2.trans b3
    have hX := implTextFault (cmB t ps tm no) w3 hsB.1
    rw [hsB.2] at hX
    clear hS
    go_wp2_with fail
    refine hX.mono ?_
    rintro e w4 ⟨rfl, b4⟩
    have B4 : Below w.heap.size w w4 := B3.trans (b4.mono B3.size)
    have T4 : TB w.heap.size w.heap.size (cmL t ps tm no) w4 := TB.below T3 b4
    have hS := bString w.heap.size w.heap.size (cmL t ps tm no) w4 T4 B4.size
    clear T2 T3 b3 b4 hX
    go_wp2_with fail
    refine hS.mono ?_
    rintro e w5 ⟨rfl, T5, b5⟩
    have B5 : Below w.heap.size w w5 := B4.trans b5
    clear hS T5 b5 T4
    go_wp2
    go_ret2
    exact ⟨B5, .inl ⟨h0, rfl⟩⟩
  · obtain ⟨X, hXe⟩ : ∃ X, cmF t ps tm no = X := ⟨_, rfl⟩
    have HT : Hid (cmF t ps tm no = X) := hXe
    rw [hXe] at h0 ⊢
    clear hW1 hW2 hA hA0 hXe
    go_wp2
    go_ret2
    exact ⟨B2, ec_fault HT.out h0⟩
end Go.Proofs.YtijphomojljckaaGreatDoor
