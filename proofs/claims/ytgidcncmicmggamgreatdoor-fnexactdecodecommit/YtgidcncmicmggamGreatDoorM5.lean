/- Texts of this claim, laid together: CmT, CmE, DcL, DcT, IxB, CutC, DtU, DcU, FpS, DcN, DcM, RegR. -/
import Derived.Test.YtgidcncmicmggamGreatDoorRows
import Derived.Test.YtgidcncmicmggamGreatDoorM1
import Derived.Test.YtgidcncmicmggamGreatDoorM2
import Derived.Test.YtgidcncmicmggamGreatDoorM3
import Derived.Test.YtgidcncmicmggamGreatDoorM4
import Derived.Stop.Asserts
import Derived.WalkKit
import Derived.ProofKit
import Derived.Below
import Derived.WalkSpells
import Derived.Deep.RegionWith
import Derived.Deep.QuietTactic
import Derived.BigQuiet
import Derived.Lib.ParseIntB
import Derived.OwnWalk
import Derived.Maps.AppendAt
import Derived.Lib.ItoaNum
import Derived.Deep.RegionLaw
import Derived.Laws.Concat
import Derived.Laws.IdiomStrings
import Derived.RangeFuncNested
import Derived.RangeFuncCalls
import Derived.OwnWalkIn
import Derived.OrdersIn
import Derived.Deep.RegionHeld
/- The text of a commit is never too long. No statement is proved here. -/
namespace Go.Proofs.YtgidcncmicmggamGreatDoor
open Go.RowKit

theorem spl_cons {c : UInt8} (l : List UInt8) (h : ¬ c = 10) : (spl (c :: l)).length = max 1 (spl l).length := by
  rw [spl, if_neg h]
  split
  · rename_i e; rw [e]; rfl
  · rename_i x xs e; rw [e]; simp
theorem spl_app (a b : List UInt8) : (spl (a ++ b)).length ≤ (spl a).length + (spl b).length := by
  induction a with
  | nil => simp [spl]
  | cons c a ih =>
    by_cases hc : c = 10
    · rw [List.cons_append, spl, if_pos hc, spl, if_pos hc]
      simp
      omega
    · rw [List.cons_append, spl_cons _ hc, spl_cons _ hc]
      omega
theorem wl2 (x y : ByteArray) : wl [x, y] = (x.data.toList ++ 32 :: y.data.toList) ++ [10] := by
  unfold wl jnB
  show (jl [x, y] 1) ++ [10] = _
  simp [jl]
theorem nt_no10 {s : ByteArray} (h : nt s = true) : ¬ (10 : UInt8) ∈ s.data.toList := fun hm => by
  obtain ⟨k, hk, e⟩ := List.mem_iff_getElem.1 hm
  have hk' : k < s.size := by simpa using hk
  have := ((of_decide_eq_true h).2 k hk').1
  have e' : s[k] = 10 := e
  rw [e'] at this
  exact absurd this (by decide)
theorem note_line {no : ByteArray} (h : nt no = true) : (spl (wl [wNote, no])).length ≤ 1 := by
  have h10 : ¬ (10 : UInt8) ∈ wNote.data.toList ++ 32 :: no.data.toList := fun hm => by
    rcases List.mem_append.1 hm with q | q
    · revert q; decide
    · rcases List.mem_cons.1 q with q | q
      · revert q; decide
      · exact nt_no10 h q
  rw [wl2, spl_feed _ [] h10]
  simp [spl]
theorem tf_commit {t : ByteArray} {ps : List ByteArray} {tm : Int} {no : ByteArray} (h0 : hd t ps = 0) (ht : inB tm 0 1000000000 = true) (hno : nt no = true) : tf ⟨(cmL t ps tm no).toArray⟩ = 0 := by
  obtain ⟨x1, x2, x3⟩ := hd_zero h0
  obtain ⟨q1, q2⟩ := inB_lo ht
  have y0 := Te.isOf_size x1
  have y2 : ∀ k, k < ps.length → (ps.getD k ByteArray.empty).size = 5 := fun k hk => Te.isOf_size (x3 k hk).1
  have hl := cmP_len y0 y2 ps.length (Nat.le_refl _)
  rw [List.take_length] at hl
  have yi := it_size q1 q2
  have yn := nt_size hno
  have a1 : (cmP t ps ++ wl [wTime, itB tm]).length ≤ 66 := by
    rw [List.length_append, wl2_len]
    have : wTime.size = 4 := rfl
    omega
  have a2 := spl_length (cmP t ps ++ wl [wTime, itB tm])
  have a3 := note_line hno
  have a4 := spl_app (cmP t ps ++ wl [wTime, itB tm]) (wl [wNote, no])
  have a5 : (cmL t ps tm no).length ≤ 132 := by
    unfold cmL
    rw [List.length_append, wl2_len]
    have : wNote.size = 4 := rfl
    omega
  refine tf_ok ?_
  rintro (q | q)
  · have : (⟨(cmL t ps tm no).toArray⟩ : ByteArray).size = (cmL t ps tm no).length := by
      show (cmL t ps tm no).toArray.size = _
      simp
    omega
  · have : (linesOf ⟨(cmL t ps tm no).toArray⟩).length = (spl (cmL t ps tm no)).length := by
      unfold linesOf linesFrom
      simp
    rw [this] at q
    have : (spl (cmL t ps tm no)).length ≤ 67 := by
      unfold cmL
      omega
    omega
end Go.Proofs.YtgidcncmicmggamGreatDoor
/- The contract of the program's encode, at a commit, and of CommitFault. No statement is proved here. -/
namespace Go.Proofs.YtgidcncmicmggamGreatDoor
open Go.ChangeShapes Go.WideShapes Go.ChangeAt Go.RowKit

theorem noTree (v : Value) (xT : TypeId) (w : World) : (Instr.typeAssert (.iface 110 v) xT 192 true).run Tryz.prog w = .ok (.tuple #[.slice none 0 0, .bool false]) w := by kernel_rfl
theorem isCommit (v : Value) (xT : TypeId) (w : World) : (Instr.typeAssert (.iface 110 v) xT 110 true).run Tryz.prog w = .ok (.tuple #[v, .bool true]) w := by kernel_rfl
def cmB (t : ByteArray) (ps : List ByteArray) (tm : Int) (no : ByteArray) : ByteArray := ⟨(cmL t ps tm no).toArray⟩
theorem cmF_zero {t : ByteArray} {ps : List ByteArray} {tm : Int} {no : ByteArray} (h : cmF t ps tm no = 0) : hd t ps = 0 ∧ inB tm 0 1000000000 = true ∧ nt no = true := by
  by_cases h0 : hd t ps = 0
  · cases ht : inB tm 0 1000000000 with
    | false => rw [cmF_time h0 ht] at h; omega
    | true =>
      cases hn : nt no with
      | false => rw [cmF_note h0 ht hn] at h; omega
      | true => exact ⟨h0, rfl, rfl⟩
  · rw [cmF_head h0] at h; exact absurd h h0
/-- What encode answers. -/
def EC (t : ByteArray) (ps : List ByteArray) (tm : Int) (no : ByteArray) (e : Ending) : Prop :=
  (cmF t ps tm no = 0 ∧ e = .returned (.tuple #[.string (cmB t ps tm no), .nilIface])) ∨ (¬ cmF t ps tm no = 0 ∧ e = .returned (.tuple #[.string ⟨#[]⟩, .iface 98 (.agg #[.int .i64 (cmF t ps tm no)])]))
theorem ec_fault {t : ByteArray} {ps : List ByteArray} {tm : Int} {no : ByteArray} {c : Int} (h : cmF t ps tm no = c) (hc : ¬ c = 0) : EC t ps tm no (.returned (.tuple #[.string ⟨#[]⟩, .iface 98 (.agg #[.int .i64 c])])) := by
  subst h
  exact .inr ⟨hc, rfl⟩
theorem writeCommit (b : Nat) (t : ByteArray) (a : Option Addr) (c : Nat) (ps : List ByteArray) (tm : Int) (no : ByteArray) (w : World) (hb : w.heap[b]? = some (.cells #[.pointer none, .slice none 0 0] 211 (0, 0))) (hbw : b < w.heap.size) (h : SSB b w a ps) (hc : ps.length ≤ c) (hn : ps.length ≤ 1048576) (hT : TaG w) (hgB : 6 < b) :
    Calls Tryz.prog 148 #[.pointer (some ⟨b, 0, none⟩), .agg #[.string t, .slice a ps.length c, .int .i64 tm, .string no]] w fun e w' => WC b t ps tm no w e w' := by
  by_cases hf : cmF t ps tm no = 0
  · obtain ⟨h0, h1, h2⟩ := cmF_zero hf
    refine (writeCommit_ok b t a c ps tm no w hb hbw h hc hT hgB h0 h1 h2).mono ?_
    rintro e w' ⟨rfl, T, B⟩
    exact ⟨B, .inl ⟨hf, rfl, T⟩⟩
  · exact writeCommit_faults b t a c ps tm no w hbw (h.toSS (by omega)) hc hn hf

set_option maxRecDepth 20000 in
set_option maxHeartbeats 2000000 in
theorem encodeCommit (t : ByteArray) (a : Option Addr) (c : Nat) (ps : List ByteArray) (tm : Int) (no : ByteArray) (w : World) (h : SS w a ps) (hc : ps.length ≤ c) (hn : ps.length ≤ 1048576) (hTa : TaG w) (hgB : 6 < w.heap.size) :
    Calls Tryz.prog 105 #[.iface 110 (.agg #[.string t, .slice a ps.length c, .int .i64 tm, .string no])] w fun e w' => Below w.heap.size w w' ∧ EC t ps tm no e := by
  have hA0 := fun xT w => noTree (.agg #[.string t, .slice a ps.length c, .int .i64 tm, .string no]) xT w
  have hA := fun xT w => isCommit (.agg #[.string t, .slice a ps.length c, .int .i64 tm, .string no]) xT w
  obtain ⟨W1, hW1⟩ : ∃ W, w.alloc (.cells #[.pointer none, .slice none 0 0] 211) = W := ⟨_, rfl⟩
  have b1 : Below w.heap.size w W1 := by rw [← hW1]; exact allocBelow _ _
  have hh1 : W1.heap[w.heap.size]? = some (.cells #[.pointer none, .slice none 0 0] 211 (0, 0)) := by rw [← hW1]; exact heap_alloc_new w _
  have z1 : w.heap.size < W1.heap.size := by rw [← hW1]; simp
  obtain ⟨W2, hW2⟩ : ∃ W, W1.alloc (.cells #[.string t, .slice a ps.length c, .int .i64 tm, .string no] 110) = W := ⟨_, rfl⟩
  have b2 : Below W1.heap.size W1 W2 := by rw [← hW2]; exact allocBelow _ _
  have r2 : Rf W2 W1.heap.size [.string t, .slice a ps.length c, .int .i64 tm, .string no] := by rw [← hW2]; exact Rf.new _ _ _
  have c0 := r2.at_ 0 _ rfl
  have c1 := r2.at_ 1 _ rfl
  have c2 := r2.at_ 2 _ rfl
  have c3 := r2.at_ 3 _ rfl
  have B12 : Below w.heap.size w W2 := b1.trans (b2.mono b1.size)
  have hS2 : SSB w.heap.size W2 a ps := h.toB.below B12
  have hW := writeCommit w.heap.size t a c ps tm no W2 ((b2.block _ z1).trans hh1) (by have := b2.size; omega) hS2 hc hn (hTa.below B12 hgB) hgB
  clear r2 hh1 z1 b1 b2 hS2
  go_enter Tryz.func105, Tryz.ntmps105
  go_wp2_with fail
  refine hW.mono ?_
  rintro e w2 ⟨b2, he⟩
  have B2 : Below w.heap.size w w2 := B12.trans b2
  clear c0 c1 c2 c3 b2 B12 hW
  rcases he with ⟨h0, rfl, T2⟩ | ⟨h0, rfl⟩
  · clear hW1 hW2 hA hA0
    obtain ⟨k0, k1, k2⟩ := cmF_zero h0
    have hsB : (cmB t ps tm no).size ≤ 1048576 ∧ tf (cmB t ps tm no) = 0 := by
      have htf : tf (cmB t ps tm no) = 0 := tf_commit k0 k1 k2
      refine ⟨?_, htf⟩
      by_cases hbig : 2000 < ((cmB t ps tm no).size : Int)
      · rw [tf_many (Or.inl hbig)] at htf; omega
      · omega
    have hS := bString w.heap.size w.heap.size (cmL t ps tm no) w2 T2 B2.size
    go_wp2_with fail
    refine hS.mono ?_
    rintro e w3 ⟨rfl, T3, b3⟩
    have B3 : Below w.heap.size w w3 := B2.trans b3
    have hX := implTextFault (cmB t ps tm no) w3 hsB.1
    rw [hsB.2] at hX
    clear hS
    go_wp2_with fail
    refine hX.mono ?_
    rintro e w4 ⟨rfl, b4⟩
    have B4 : Below w.heap.size w w4 := B3.trans (b4.mono B3.size)
    have T4 : TB w.heap.size w.heap.size (cmL t ps tm no) w4 := TB.below T3 b4
    have hS := bString w.heap.size w.heap.size (cmL t ps tm no) w4 T4 B4.size
    clear T2 T3 b3 b4 hX
    go_wp2_with fail
    refine hS.mono ?_
    rintro e w5 ⟨rfl, T5, b5⟩
    have B5 : Below w.heap.size w w5 := B4.trans b5
    clear hS T5 b5 T4
    go_wp2
    go_ret2
    exact ⟨B5, .inl ⟨h0, rfl⟩⟩
  · obtain ⟨X, hXe⟩ : ∃ X, cmF t ps tm no = X := ⟨_, rfl⟩
    have HT : Hid (cmF t ps tm no = X) := hXe
    rw [hXe] at h0 ⊢
    clear hW1 hW2 hA hA0 hXe
    go_wp2
    go_ret2
    exact ⟨B2, ec_fault HT.out h0⟩
end Go.Proofs.YtgidcncmicmggamGreatDoor
/- The text of a commit read back: what both readers make of a text, and that it is the same. No statement is proved here. -/
namespace Go.Proofs.YtgidcncmicmggamGreatDoor.Dc
open Go.Proofs.YtgidcncmicmggamGreatDoor.Te

/-- The lines of a commit's text. -/
def cmLs (t : ByteArray) (ps : List ByteArray) (tm : Int) (no : ByteArray) : List (List UInt8) := wl [wTree, t] :: (ps.map (fun p => wl [wPar, p]) ++ [wl [wTime, itB tm], wl [wNote, no]])
theorem cmLs_flat (t : ByteArray) (ps : List ByteArray) (tm : Int) (no : ByteArray) : (cmLs t ps tm no).flatten = cmL t ps tm no := by
  simp [cmLs, cmL, cmP, List.flatMap_def]
theorem spl_lines : ∀ (xs : List (List UInt8)), (∀ x ∈ xs, ∃ a, x = a ++ [10] ∧ ¬ (10 : UInt8) ∈ a) → spl xs.flatten = xs
  | [], _ => rfl
  | x :: xs, h => by
    obtain ⟨a, e, h10⟩ := h x List.mem_cons_self
    have ih := spl_lines xs (fun y hy => h y (List.mem_cons_of_mem _ hy))
    rw [List.flatten_cons, e, List.append_assoc, List.singleton_append, spl_feed a _ h10, ih]
theorem wl_line {w v : ByteArray} (hw : ¬ (10 : UInt8) ∈ w.data.toList) (hv : ¬ (10 : UInt8) ∈ v.data.toList) : ∃ a, wl [w, v] = a ++ [10] ∧ ¬ (10 : UInt8) ∈ a :=
  ⟨_, wl2 w v, fun hm => by
    rcases List.mem_append.1 hm with q | q
    · exact hw q
    · rcases List.mem_cons.1 q with q | q
      · exact absurd q (by decide)
      · exact hv q⟩
theorem hex_no10 {c : UInt8} (h : isHex c = true) : ¬ c = 10 := fun e => by subst e; exact absurd h (by decide)
theorem let_no10 {c : UInt8} (h : isLet c = true) : ¬ c = 10 := fun e => by subst e; exact absurd h (by decide)
theorem id_no10 {k : Int} {id : ByteArray} (h : isOf k id = true) : ¬ (10 : UInt8) ∈ id.data.toList := fun hm => by
  have hi : idB id.data.toList = true := by
    cases e : idB id.data.toList with
    | true => rfl
    | false => rw [isOf_no e] at h; cases h
  have hl : id.data.toList.length = 5 := by
    by_cases q : id.data.toList.length = 5
    · exact q
    · rw [idB_len q] at hi; cases hi
  obtain ⟨j, hj, e⟩ := List.mem_iff_getElem.1 hm
  by_cases j0 : j = 0
  · subst j0
    cases q : isLet (id.data.toList[0]'(by omega)) with
    | true => exact let_no10 q e
    | false => rw [idB_let hl q] at hi; cases hi
  · cases q : isHex (id.data.toList[j]'(by omega)) with
    | true => exact hex_no10 q e
    | false => rw [idB_hex hl j (by omega) (by omega) q] at hi; cases hi
theorem dg_no10 (n : Nat) (h : n < 10) : ¬ UInt8.ofNat (48 + n) = 10 := by
  match n, h with
  | 0, _ | 1, _ | 2, _ | 3, _ | 4, _ | 5, _ | 6, _ | 7, _ | 8, _ | 9, _ => decide
theorem dec_no10 : ∀ (f n : Nat), n ≤ f → ¬ (10 : UInt8) ∈ Lib.decDigits n := by
  intro f
  induction f with
  | zero =>
    intro n h
    obtain rfl : n = 0 := by omega
    rw [Lib.decDigits_one (by omega)]
    decide
  | succ f ih =>
    intro n h
    by_cases h1 : n < 10
    · rw [Lib.decDigits_one h1]
      intro hm
      exact dg_no10 n h1 (List.mem_singleton.1 hm).symm
    · rw [Lib.decDigits, dif_neg h1]
      intro hm
      rcases List.mem_append.1 hm with q | q
      · exact ih (n / 10) (by omega) q
      · exact dg_no10 (n % 10) (by omega) (List.mem_singleton.1 q).symm
theorem it_no10 {n : Int} (h : 0 ≤ n) : ¬ (10 : UInt8) ∈ (itB n).data.toList := by
  show ¬ (10 : UInt8) ∈ Lib.itoa n
  unfold Lib.itoa
  rw [if_neg (by omega)]
  exact dec_no10 _ _ (Nat.le_refl _)
theorem cm_spl {t : ByteArray} {ps : List ByteArray} {tm : Int} {no : ByteArray} (h : cmF t ps tm no = 0) : spl (cmL t ps tm no) = cmLs t ps tm no := by
  obtain ⟨h0, ht, hno⟩ := cmF_zero h
  obtain ⟨x1, x2, x3⟩ := hd_zero h0
  have q1 : 0 ≤ tm := (of_decide_eq_true ht).1
  rw [← cmLs_flat]
  refine spl_lines _ fun x hx => ?_
  unfold cmLs at hx
  rcases List.mem_cons.1 hx with rfl | hx
  · exact wl_line (by decide) (id_no10 x1)
  rcases List.mem_append.1 hx with hx | hx
  · obtain ⟨p, hp, rfl⟩ := List.mem_map.1 hx
    obtain ⟨j, hj, e⟩ := List.mem_iff_getElem.1 hp
    have := (x3 j hj).1
    rw [show ps.getD j ByteArray.empty = p by rw [← e]; simp [List.getD, hj]] at this
    exact wl_line (by decide) (id_no10 this)
  · simp only [List.mem_cons, List.not_mem_nil, or_false] at hx
    rcases hx with rfl | rfl
    · exact wl_line (by decide) (it_no10 q1)
    · exact wl_line (by decide) (nt_no10 hno)
/-- A commit: its tree, its parents, its time, its note. -/
abbrev Cm4 := ByteArray × List ByteArray × Int × ByteArray
/-- What the program makes of a line; pi: how it reads a number. -/
def pStep (pi : List UInt8 → Option Int) (c : Option Cm4) (x : List UInt8) : Option Cm4 := match c with
  | none => none
  | some (t, ps, tm, no) =>
    if bef (trimL x) = wTree.data.toList then some (mkB (aft (trimL x)), ps, tm, no)
    else if bef (trimL x) = wPar.data.toList then some (t, ps ++ [mkB (aft (trimL x))], tm, no)
    else if bef (trimL x) = wTime.data.toList then (match pi (aft (trimL x)) with
      | none => none
      | some n => some (t, ps, n, no))
    else if bef (trimL x) = wNote.data.toList then some (t, ps, tm, mkB (aft (trimL x)))
    else some (t, ps, tm, no)
def pAll (pi : List UInt8 → Option Int) (xs : List (List UInt8)) : Option Cm4 := xs.foldl (pStep pi) (some (ByteArray.empty, [], 0, ByteArray.empty))
theorem wl_fld {w : ByteArray} (hw : ¬ (32 : UInt8) ∈ w.data.toList) (v : ByteArray) : bef (trimL (wl [w, v])) = w.data.toList ∧ aft (trimL (wl [w, v])) = v.data.toList := by
  rw [wl2, trim_snoc]
  exact bef_app _ hw
theorem mkB_self (v : ByteArray) : mkB v.data.toList = v := rfl
theorem p_par (pi : List UInt8 → Option Int) (t : ByteArray) (tm : Int) (no : ByteArray) : ∀ (ps qs : List ByteArray), (ps.map (fun p => wl [wPar, p])).foldl (pStep pi) (some (t, qs, tm, no)) = some (t, qs ++ ps, tm, no)
  | [], qs => by simp
  | p :: ps, qs => by
    have e := wl_fld (w := wPar) (by decide) p
    have s : pStep pi (some (t, qs, tm, no)) (wl [wPar, p]) = some (t, qs ++ [p], tm, no) := by
      simp only [pStep]
      rw [e.1, e.2, if_neg (by decide), if_pos rfl, mkB_self]
    rw [List.map_cons, List.foldl_cons, s, p_par pi t tm no ps (qs ++ [p])]
    simp
theorem pAll_cm (pi : List UInt8 → Option Int) {t : ByteArray} {ps : List ByteArray} {tm : Int} {no : ByteArray} (hpi : pi (itB tm).data.toList = some tm) : pAll pi (cmLs t ps tm no) = some (t, ps, tm, no) := by
  have e1 := wl_fld (w := wTree) (by decide) t
  have e2 := wl_fld (w := wTime) (by decide) (itB tm)
  have e3 := wl_fld (w := wNote) (by decide) no
  have s1 : pStep pi (some (ByteArray.empty, [], 0, ByteArray.empty)) (wl [wTree, t]) = some (t, [], 0, ByteArray.empty) := by
    simp only [pStep]
    rw [e1.1, e1.2, if_pos rfl, mkB_self]
  have s2 : pStep pi (some (t, ps, 0, ByteArray.empty)) (wl [wTime, itB tm]) = some (t, ps, tm, ByteArray.empty) := by
    simp only [pStep]
    rw [e2.1, e2.2, if_neg (by decide), if_neg (by decide), if_pos rfl, hpi]
  have s3 : pStep pi (some (t, ps, tm, ByteArray.empty)) (wl [wNote, no]) = some (t, ps, tm, no) := by
    simp only [pStep]
    rw [e3.1, e3.2, if_neg (by decide), if_neg (by decide), if_neg (by decide), if_pos rfl, mkB_self]
  unfold pAll cmLs
  rw [List.foldl_cons, s1, List.foldl_append, p_par, List.nil_append, List.foldl_cons, s2, List.foldl_cons, s3, List.foldl_nil]
/-- What is behind a word and a blank of a line that is ended. -/
def stW (w x : List UInt8) : Option (List UInt8) := if x.getLast? = some 10 ∧ (w ++ [32]).isPrefixOf x.dropLast = true then some (x.dropLast.drop (w.length + 1)) else none
theorem stW_wl (w v : ByteArray) : stW w.data.toList (wl [w, v]) = some v.data.toList := by
  rw [wl2]
  unfold stW
  rw [List.dropLast_concat, if_pos ⟨List.getLast?_concat, by rw [List.isPrefixOf_iff_prefix]; exact ⟨v.data.toList, by simp⟩⟩]
  have e : w.data.toList ++ 32 :: v.data.toList = (w.data.toList ++ [32]) ++ v.data.toList := by simp
  rw [e, List.drop_left' (by simp)]
theorem stW_some {w x v : List UInt8} (h : stW w x = some v) : x = (w ++ 32 :: v) ++ [10] := by
  unfold stW at h
  split at h
  · rename_i q
    have hx := last_snoc q.1
    obtain ⟨r, hr⟩ := List.isPrefixOf_iff_prefix.1 q.2
    have e := Option.some.inj h
    rw [← hr] at e
    have e' : r = v := by rw [← e]; simp
    rw [hx, ← hr, e']
    simp
  · cases h
/-- The word of line i of n. -/
def wOf (n i : Nat) : ByteArray := if i + 1 = n then wNote else if i + 2 = n then wTime else if i = 0 then wTree else wPar
def txt (xs : List (List UInt8)) (i : Nat) : List UInt8 := (stW (wOf xs.length i).data.toList (xs.getD i [])).getD []
/-- What the specification asks of the lines; ti: how it reads a number. -/
def sOk (ti : List UInt8 → Option Int) (xs : List (List UInt8)) : Prop := 3 ≤ xs.length ∧ (∀ i, i < xs.length → (stW (wOf xs.length i).data.toList (xs.getD i [])).isSome = true) ∧ (ti (txt xs (xs.length - 2))).isSome = true
/-- The commit that it makes of them. -/
def sCm (ti : List UInt8 → Option Int) (xs : List (List UInt8)) : Cm4 := (mkB (txt xs 0), (List.range (xs.length - 3)).map (fun i => mkB (txt xs (i + 1))), (ti (txt xs (xs.length - 2))).getD 0, mkB (txt xs (xs.length - 1)))
theorem cmLs_len (t : ByteArray) (ps : List ByteArray) (tm : Int) (no : ByteArray) : (cmLs t ps tm no).length = ps.length + 3 := by simp [cmLs]
theorem cmLs_at (t : ByteArray) (ps : List ByteArray) (tm : Int) (no : ByteArray) (i : Nat) (hi : i < ps.length + 3) : (cmLs t ps tm no).getD i [] = wl [wOf (ps.length + 3) i, if i + 1 = ps.length + 3 then no else if i + 2 = ps.length + 3 then itB tm else if i = 0 then t else ps.getD (i - 1) ByteArray.empty] := by
  unfold wOf cmLs
  match i, hi with
  | 0, _ => rw [if_neg (by omega), if_neg (by omega), if_pos rfl, if_neg (by omega), if_neg (by omega), if_pos rfl]; rfl
  | j + 1, hi =>
    by_cases h1 : j + 1 + 1 = ps.length + 3
    · rw [if_pos h1, if_pos h1]
      simp [List.getD, List.getElem?_append, show ¬ j < ps.length by omega, show j - ps.length = 1 by omega]
    · rw [if_neg h1, if_neg h1]
      by_cases h2 : j + 1 + 2 = ps.length + 3
      · rw [if_pos h2, if_pos h2]
        simp [List.getD, List.getElem?_append, show ¬ j < ps.length by omega, show j - ps.length = 0 by omega]
      · rw [if_neg h2, if_neg h2, if_neg (by omega), if_neg (by omega)]
        have hj : j < ps.length := by omega
        simp [List.getD, List.getElem?_append, hj]
theorem st_cm (t : ByteArray) (ps : List ByteArray) (tm : Int) (no : ByteArray) (i : Nat) (hi : i < ps.length + 3) : stW (wOf (cmLs t ps tm no).length i).data.toList ((cmLs t ps tm no).getD i []) = some (if i + 1 = ps.length + 3 then no else if i + 2 = ps.length + 3 then itB tm else if i = 0 then t else ps.getD (i - 1) ByteArray.empty).data.toList := by
  rw [cmLs_len, cmLs_at t ps tm no i hi, stW_wl]
theorem txt_cm (t : ByteArray) (ps : List ByteArray) (tm : Int) (no : ByteArray) (i : Nat) (hi : i < ps.length + 3) : txt (cmLs t ps tm no) i = (if i + 1 = ps.length + 3 then no else if i + 2 = ps.length + 3 then itB tm else if i = 0 then t else ps.getD (i - 1) ByteArray.empty).data.toList := by
  unfold txt; rw [st_cm t ps tm no i hi]; rfl
/-- A commit's own lines are taken, and give the commit. -/
theorem s_cm (ti : List UInt8 → Option Int) {t : ByteArray} {ps : List ByteArray} {tm : Int} {no : ByteArray} (hti : ti (itB tm).data.toList = some tm) : sOk ti (cmLs t ps tm no) ∧ sCm ti (cmLs t ps tm no) = (t, ps, tm, no) := by
  have l := cmLs_len t ps tm no
  have t0 := txt_cm t ps tm no 0 (by omega)
  rw [if_neg (by omega), if_neg (by omega), if_pos rfl] at t0
  have t1 := txt_cm t ps tm no (ps.length + 1) (by omega)
  rw [if_neg (by omega), if_pos (by omega)] at t1
  have t2 := txt_cm t ps tm no (ps.length + 2) (by omega)
  rw [if_pos (by omega)] at t2
  have e1 : (cmLs t ps tm no).length - 2 = ps.length + 1 := by omega
  have e2 : (cmLs t ps tm no).length - 1 = ps.length + 2 := by omega
  have e3 : (cmLs t ps tm no).length - 3 = ps.length := by omega
  refine ⟨⟨by omega, fun i hi => by rw [st_cm t ps tm no i (by omega)]; rfl, by rw [e1, t1, hti]; rfl⟩, ?_⟩
  unfold sCm
  rw [e1, e2, e3, t0, t1, t2, hti]
  have hp : (List.range ps.length).map (fun i => mkB (txt (cmLs t ps tm no) (i + 1))) = ps := by
    apply List.ext_getElem
    · simp
    · intro i h1 h2
      have := txt_cm t ps tm no (i + 1) (by omega)
      rw [if_neg (by omega), if_neg (by omega), if_neg (by omega)] at this
      simp [this, List.getD, h2, mkB_self]
  rw [hp]
  rfl
/-- Lines that are taken are the lines of the commit that they give. -/
theorem s_back (ti : List UInt8 → Option Int) (hs : ∀ v n, ti v = some n → itB n = mkB v) {xs : List (List UInt8)} (h : sOk ti xs) : cmLs (sCm ti xs).1 (sCm ti xs).2.1 (sCm ti xs).2.2.1 (sCm ti xs).2.2.2 = xs := by
  obtain ⟨h3, hall, htm⟩ := h
  obtain ⟨n, hn⟩ := Option.isSome_iff_exists.1 htm
  have hl : (sCm ti xs).2.1.length = xs.length - 3 := by simp [sCm]
  have hline : ∀ i, i < xs.length → xs.getD i [] = wl [wOf xs.length i, mkB (txt xs i)] := fun i hi => by
    obtain ⟨v, hv⟩ := Option.isSome_iff_exists.1 (hall i hi)
    have e : txt xs i = v := by unfold txt; rw [hv]; rfl
    rw [wl2, mkB_data, e]
    exact stW_some hv
  apply List.ext_getElem
  · rw [cmLs_len, hl]; omega
  · intro i g1 g2
    have e1 : (cmLs (sCm ti xs).1 (sCm ti xs).2.1 (sCm ti xs).2.2.1 (sCm ti xs).2.2.2)[i] = (cmLs (sCm ti xs).1 (sCm ti xs).2.1 (sCm ti xs).2.2.1 (sCm ti xs).2.2.2).getD i [] := by simp [List.getD, g1]
    have e2 : xs[i] = xs.getD i [] := by simp [List.getD, g2]
    rw [e1, e2, hline i g2, cmLs_at _ _ _ _ i (by rw [hl]; omega), hl, show xs.length - 3 + 3 = xs.length by omega]
    congr 2
    by_cases c1 : i + 1 = xs.length
    · rw [if_pos c1]
      show [mkB (txt xs (xs.length - 1))] = _
      rw [show xs.length - 1 = i by omega]
    · rw [if_neg c1]
      by_cases c2 : i + 2 = xs.length
      · rw [if_pos c2]
        show [itB ((ti (txt xs (xs.length - 2))).getD 0)] = _
        rw [hn, Option.getD_some, hs _ _ hn, show xs.length - 2 = i by omega]
      · rw [if_neg c2]
        by_cases c3 : i = 0
        · rw [if_pos c3, c3]; rfl
        · rw [if_neg c3]
          have : i - 1 < xs.length - 3 := by omega
          simp [sCm, List.getD, this, show i - 1 + 1 = i by omega]
/-- What the program answers of a text. -/
def dcI (pi : List UInt8 → Option Int) (d : ByteArray) : Option Cm4 := match pAll pi (spl d.data.toList) with
  | none => none
  | some c => if cmF c.1 c.2.1 c.2.2.1 c.2.2.2 = 0 ∧ cmL c.1 c.2.1 c.2.2.1 c.2.2.2 = d.data.toList then some c else none
theorem dcI_of {pi : List UInt8 → Option Int} (hp : ∀ n : Int, 0 ≤ n → n ≤ 1000000000 → pi (itB n).data.toList = some n) {d : ByteArray} {c : Cm4} (h0 : cmF c.1 c.2.1 c.2.2.1 c.2.2.2 = 0) (h1 : cmL c.1 c.2.1 c.2.2.1 c.2.2.2 = d.data.toList) : dcI pi d = some c := by
  obtain ⟨q1, q2⟩ := of_decide_eq_true (cmF_zero h0).2.1
  unfold dcI
  rw [← h1, cm_spl h0, pAll_cm pi (hp c.2.2.1 q1 q2)]
  exact if_pos ⟨h0, rfl⟩
theorem dcI_some {pi : List UInt8 → Option Int} {d : ByteArray} {c : Cm4} (h : dcI pi d = some c) : cmF c.1 c.2.1 c.2.2.1 c.2.2.2 = 0 ∧ cmL c.1 c.2.1 c.2.2.1 c.2.2.2 = d.data.toList := by
  unfold dcI at h
  split at h
  · cases h
  · split at h
    · rename_i q
      obtain rfl := Option.some.inj h
      exact q
    · cases h
/-- The specification's verdict, and the program's: the same commit, or none. -/
def dcS (ti : List UInt8 → Option Int) (d : ByteArray) : Prop := sOk ti (spl d.data.toList) ∧ cmF (sCm ti (spl d.data.toList)).1 (sCm ti (spl d.data.toList)).2.1 (sCm ti (spl d.data.toList)).2.2.1 (sCm ti (spl d.data.toList)).2.2.2 = 0
theorem dc_yes {pi ti : List UInt8 → Option Int} (hp : ∀ n : Int, 0 ≤ n → n ≤ 1000000000 → pi (itB n).data.toList = some n) (hs : ∀ v n, ti v = some n → itB n = mkB v) {d : ByteArray} (h : dcS ti d) : dcI pi d = some (sCm ti (spl d.data.toList)) :=
  dcI_of hp h.2 (by rw [← cmLs_flat, s_back ti hs h.1, spl_join])
theorem dc_no {pi ti : List UInt8 → Option Int} (ht : ∀ n : Int, 0 ≤ n → n ≤ 1000000000 → ti (itB n).data.toList = some n) {d : ByteArray} (h : ¬ dcS ti d) : dcI pi d = none := by
  cases e : dcI pi d with
  | none => rfl
  | some c =>
    obtain ⟨h0, h1⟩ := dcI_some e
    obtain ⟨q1, q2⟩ := of_decide_eq_true (cmF_zero h0).2.1
    obtain ⟨k1, k2⟩ := s_cm ti (t := c.1) (ps := c.2.1) (no := c.2.2.2) (ht c.2.2.1 q1 q2)
    have e2 : spl d.data.toList = cmLs c.1 c.2.1 c.2.2.1 c.2.2.2 := by rw [← h1]; exact cm_spl h0
    refine absurd ?_ h
    unfold dcS
    rw [e2, k2]
    exact ⟨k1, h0⟩
end Go.Proofs.YtgidcncmicmggamGreatDoor.Dc
/- Numbers of a text: what both readers of a commit make of them. No statement is proved here. -/
namespace Go.Proofs.YtgidcncmicmggamGreatDoor.Dc

/-- What the digits spell, behind what the digits ahead spell. -/
def valF (acc : Nat) (l : List UInt8) : Nat := l.foldl (fun n c => n * 10 + (c.toNat - 48)) acc
theorem valF_cons (acc : Nat) (c : UInt8) (r : List UInt8) : valF acc (c :: r) = valF (acc * 10 + (c.toNat - 48)) r := List.foldl_cons ..
theorem valF_nil (acc : Nat) : valF acc [] = acc := List.foldl_nil ..
def Dg (c : UInt8) : Prop := 48 ≤ c.toNat ∧ c.toNat ≤ 57
theorem valF_ge (l : List UInt8) : ∀ acc : Nat, acc ≤ valF acc l := by
  induction l with
  | nil => intro acc; rw [valF_nil]; exact Nat.le_refl _
  | cons c r ih =>
    intro acc
    rw [valF_cons]
    generalize c.toNat - 48 = d
    exact Nat.le_trans (by omega) (ih (acc * 10 + d))
theorem valF_app (c : UInt8) (l : List UInt8) : ∀ acc : Nat, valF acc (l ++ [c]) = valF acc l * 10 + (c.toNat - 48) := by
  induction l with
  | nil => intro acc; rw [List.nil_append, valF_cons, valF_nil, valF_nil]
  | cons x r ih => intro acc; rw [List.cons_append, valF_cons, valF_cons, ih]
theorem dg_of {n : Nat} (h : n < 10) : Dg (UInt8.ofNat (48 + n)) ∧ (UInt8.ofNat (48 + n)).toNat - 48 = n := by
  have e : (UInt8.ofNat (48 + n)).toNat = 48 + n := by
    rw [UInt8.toNat_ofNat']
    omega
  unfold Dg
  rw [e]
  omega
theorem val_dec : ∀ (f n : Nat), n ≤ f → valF 0 (Lib.decDigits n) = n ∧ (∀ c ∈ Lib.decDigits n, Dg c) ∧ Lib.decDigits n ≠ [] := by
  intro f
  induction f with
  | zero =>
    intro n h
    obtain rfl : n = 0 := by omega
    rw [Lib.decDigits_one (by omega)]
    refine ⟨by decide, fun c hc => ?_, by simp⟩
    obtain rfl := List.mem_singleton.1 hc
    exact (dg_of (by omega)).1
  | succ f ih =>
    intro n h
    by_cases h1 : n < 10
    · rw [Lib.decDigits_one h1]
      refine ⟨?_, fun c hc => ?_, by simp⟩
      · rw [valF_cons, valF_nil, (dg_of h1).2]
        omega
      · obtain rfl := List.mem_singleton.1 hc
        exact (dg_of h1).1
    · obtain ⟨i1, i2, i3⟩ := ih (n / 10) (by omega)
      have hd := dg_of (n := n % 10) (by omega)
      rw [Lib.decDigits, dif_neg h1]
      refine ⟨?_, fun c hc => ?_, by simp⟩
      · rw [valF_app, i1, hd.2]
        omega
      · rcases List.mem_append.1 hc with q | q
        · exact i2 c q
        · obtain rfl := List.mem_singleton.1 q
          exact hd.1
theorem pM_ok (M : Nat) (hM : 1000000000 ≤ M) : ∀ (l : List UInt8) (acc : Nat), (∀ c ∈ l, Dg c) → valF acc l ≤ 1000000000 → Lib.parseUintM M acc l = .ok (valF acc l)
  | [], acc, _, _ => by rw [valF_nil]; unfold Lib.parseUintM; rfl
  | c :: r, acc, hd, hv => by
    have h1 := hd c List.mem_cons_self
    rw [valF_cons] at hv ⊢
    have g := valF_ge r (acc * 10 + (c.toNat - 48))
    unfold Lib.parseUintM
    rw [if_pos (show 48 ≤ c.toNat ∧ c.toNat ≤ 57 from h1), if_neg (by omega), if_neg (by omega)]
    exact pM_ok M hM r _ (fun x hx => hd x (List.mem_cons_of_mem _ hx)) hv
/-- The program's number of a text. -/
def pI (v : List UInt8) : Option Int := match Lib.parseIntB 64 v with
  | .ok n => some n
  | _ => none
theorem it_dec (n : Nat) : (itB (n : Int)).data.toList = Lib.decDigits n := by
  show Lib.itoa (n : Int) = _
  unfold Lib.itoa
  rw [if_neg (by omega)]
  simp
theorem pI_dec (n : Int) (h0 : 0 ≤ n) (h1 : n ≤ 1000000000) : pI (itB n).data.toList = some n := by
  obtain ⟨m, rfl⟩ := Int.eq_ofNat_of_zero_le h0
  rw [it_dec]
  obtain ⟨v1, v2, v3⟩ := val_dec m m (Nat.le_refl _)
  unfold pI Lib.parseIntB
  cases e : Lib.decDigits m with
  | nil => exact absurd e v3
  | cons c r =>
    rw [e] at v1 v2
    have hc := v2 c List.mem_cons_self
    have hc' : 48 ≤ c.toNat := hc.1
    have hu : Lib.parseUintB 64 (c :: r) = .ok m := by
      unfold Lib.parseUintB
      rw [if_neg (by simp), pM_ok _ (by decide) _ _ v2 (by omega), v1]
    have n1 : ¬ (c.toNat = 43 ∨ c.toNat = 45) := by omega
    have n2 : ¬ c.toNat = 45 := by omega
    have n3 : ¬ 2 ^ (64 - 1) ≤ m := by
      have : (2 : Nat) ^ (64 - 1) = 9223372036854775808 := by decide
      omega
    dsimp only
    rw [if_neg n1, hu]
    dsimp only
    rw [if_neg (fun q => n3 q.2), if_neg (fun q => n2 q.1), if_neg n2]
/-- The specification's number of a text. -/
def tI (v : List UInt8) : Option Int := if 1 ≤ v.length ∧ v.length ≤ 10 ∧ (v.all fun c => decide (48 ≤ c.toNat ∧ c.toNat ≤ 57)) = true ∧ Lib.decDigits (valF 0 v) = v then some (valF 0 v : Nat) else none
theorem tI_sound (v : List UInt8) (n : Int) (h : tI v = some n) : itB n = mkB v := by
  unfold tI at h
  split at h
  · rename_i q
    obtain rfl := Option.some.inj h
    have e := it_dec (valF 0 v)
    rw [q.2.2.2] at e
    exact WideShapes.bytes_inj (e.trans (mkB_data v).symm)
  · cases h
theorem tI_dec (n : Int) (h0 : 0 ≤ n) (h1 : n ≤ 1000000000) : tI (itB n).data.toList = some n := by
  have hz := it_size h0 h1
  obtain ⟨m, rfl⟩ := Int.eq_ofNat_of_zero_le h0
  obtain ⟨v1, v2, v3⟩ := val_dec m m (Nat.le_refl _)
  have hl : (itB (m : Int)).data.toList.length ≤ 10 := by rw [size_eq]; exact hz
  rw [it_dec] at hl ⊢
  unfold tI
  rw [if_pos ⟨List.length_pos_iff.2 v3, hl, List.all_eq_true.2 fun c hc => decide_eq_true (v2 c hc), by rw [v1]⟩, v1]
end Go.Proofs.YtgidcncmicmggamGreatDoor.Dc
/- The contract of strings.Index at a blank. No statement is proved here. -/
namespace Go.Proofs.YtgidcncmicmggamGreatDoor
open Go.ChangeShapes Go.WideShapes Go.ChangeAt Go.RowKit

theorem sliteIdxB (s : ByteArray) (c : Int) (w : World) :
    Calls Tryz.prog 182 #[.string s, .int .u8 c] w fun e w' => e = .returned (.int .i64 (Lib.indexByte s.data.toList c.toNat.toUInt8)) ∧ w' = w := by
  have h := idxEntry s c
  go_enter Tryz.func182, Tryz.ntmps182
  go_wp2
  go_ret
  exact ⟨rfl, rfl⟩
set_option maxRecDepth 20000 in
set_option maxHeartbeats 1000000 in
theorem sliteIndex32 (s : ByteArray) (w : World) :
    Calls Tryz.prog 183 #[.string s, .string ⟨#[32]⟩] w fun e w' => e = .returned (.int .i64 (Lib.indexByte s.data.toList 32)) ∧ w' = w := by
  have h := fun w => sliteIdxB s  32 w
  have e32 : (32 : Int).toNat.toUInt8 =  32 := rfl
  rw [e32] at h
  by_cases hq : (⟨#[32]⟩ : ByteArray) = s
  · subst hq
    have hR : Hid (Lib.indexByte (⟨#[32]⟩ : ByteArray).data.toList  32 = 0) := by show _ = _; rfl
    have hb : (([32] : List UInt8) == [32]) = true := rfl
    go_enter Tryz.func183, Tryz.ntmps183
    go_wp2
    go_ret
    exact ⟨ret_int hR.out.symm, rfl⟩
  · have hb : (([32] : List UInt8) == s.toList) = false := by
      have := beq_bytes_false hq
      rwa [ByteArray.toList_eq] at this
    obtain ⟨i, hi⟩ : ∃ i, Lib.indexByte s.data.toList  32 = i := ⟨_, rfl⟩
    rw [hi] at h ⊢
    clear hi
    go_enter Tryz.func183, Tryz.ntmps183
    go_wp2_with (go_at_call 182; refine (h _).mono ?_; rintro e w' ⟨rfl, rfl⟩)
    go_ret
    exact ⟨rfl, rfl⟩
theorem index32 (s : ByteArray) (w : World) :
    Calls Tryz.prog 227 #[.string s, .string ⟨#[32]⟩] w fun e w' => e = .returned (.int .i64 (Lib.indexByte s.data.toList 32)) ∧ w' = w := by
  have h := fun w => sliteIndex32 s w
  obtain ⟨i, hi⟩ : ∃ i, Lib.indexByte s.data.toList  32 = i := ⟨_, rfl⟩
  rw [hi] at h ⊢
  clear hi
  go_enter Tryz.func227, Tryz.ntmps227
  go_wp2_with (go_at_call 183; refine (h _).mono ?_; rintro e w' ⟨rfl, rfl⟩)
  go_ret
  exact ⟨rfl, rfl⟩
end Go.Proofs.YtgidcncmicmggamGreatDoor
/- The contracts of strings.Cut at a blank, of strings.TrimSuffix at a line feed, and of the program's fieldOf. No statement is proved here. -/
namespace Go.Proofs.YtgidcncmicmggamGreatDoor.Te
open Go.ChangeShapes Go.WideShapes Go.ChangeAt Go.RowKit

theorem bef_at {s : ByteArray} {m : Nat} (h : Lib.indexByte s.data.toList 32 = (m : Int)) : mkB (bef s.data.toList) = s.extract 0 m ∧ mkB (aft s.data.toList) = s.extract (m + 1) s.size ∧ m < s.size := by
  obtain ⟨y1, y2, y3⟩ := indexByte_split s.data.toList 32 (by rw [h]; omega)
  rw [h] at y1 y2 y3
  simp only [Int.toNat_natCast] at y1 y2 y3
  rw [size_eq] at y3
  have f := bef_app (s.data.toList.drop (m + 1)) y1
  rw [← y2] at f
  refine ⟨?_, ?_, y3⟩
  · apply bytes_inj2
    rw [ByteArray.toList_eq, ByteArray.toList_eq, mkB_data, extract_data, f.1, List.drop_zero, Nat.sub_zero]
  · apply bytes_inj2
    rw [ByteArray.toList_eq, ByteArray.toList_eq, mkB_data, extract_data, f.2, List.take_of_length_le]
    rw [List.length_drop, size_eq]; omega
theorem bef_none {s : ByteArray} (h : Lib.indexByte s.data.toList 32 < 0) : mkB (bef s.data.toList) = s ∧ mkB (aft s.data.toList) = ⟨#[]⟩ := by
  have n : ¬ (32 : UInt8) ∈ s.data.toList := fun q => by have := (indexByte_mem _ _).2 q; omega
  have f := bef_no n
  rw [f.1, f.2, mkB_eq]
  exact ⟨rfl, rfl⟩
/-- What Cut answers. -/
def CutR (s : ByteArray) (e : Ending) : Prop := ∃ b : Bool, e = .returned (.tuple #[.string (mkB (bef s.data.toList)), .string (mkB (aft s.data.toList)), .bool b])
set_option maxHeartbeats 1000000 in
theorem sliteCut (s : ByteArray) (w : World) (hs : s.size ≤ 1048576) :
    Calls Tryz.prog 140 #[.string s, .string ⟨#[32]⟩] w fun e w' => CutR s e ∧ Below w.heap.size w w' := by
  have hI := fun w => sliteIndex32 s w
  have hN := bef_none (s := s)
  have hA := fun m => bef_at (s := s) (m := m)
  obtain ⟨i, hi⟩ : ∃ i, Lib.indexByte s.data.toList 32 = i := ⟨_, rfl⟩
  rw [hi] at hI hN
  simp only [hi] at hA
  unfold CutR
  obtain ⟨X, hX⟩ : ∃ X, mkB (bef s.data.toList) = X := ⟨_, rfl⟩
  obtain ⟨Y, hY⟩ : ∃ Y, mkB (aft s.data.toList) = Y := ⟨_, rfl⟩
  rw [hX, hY] at hN ⊢
  simp only [hX, hY] at hA
  clear hX hY hi
  by_cases hneg : i < 0
  · obtain ⟨rfl, rfl⟩ := hN hneg
    have q : ¬ 0 ≤ i := by omega
    clear hN hA
    go_enter Tryz.func140, Tryz.ntmps140
    go_wp2_with (go_at_call 183; refine (hI _).mono ?_; rintro e w' ⟨rfl, rfl⟩)
    go_ret3
    exact ⟨⟨_, rfl⟩, Below.refl _ _⟩
  · obtain ⟨m, rfl⟩ := Int.eq_ofNat_of_zero_le (show 0 ≤ i by omega)
    obtain ⟨rfl, rfl, hm⟩ := hA m rfl
    have q : (0 : Int) ≤ (m : Int) := by omega
    clear hN hA
    go_enter Tryz.func140, Tryz.ntmps140
    go_wp2_with (go_at_call 183; refine (hI _).mono ?_; rintro e w' ⟨rfl, rfl⟩)
    go_quiet (fail)
    go_wp2
    go_ret3
    exact ⟨⟨_, rfl⟩, below_drewN' (Below.refl _ _) _⟩
theorem cutC (s : ByteArray) (w : World) (hs : s.size ≤ 1048576) :
    Calls Tryz.prog 100 #[.string s, .string ⟨#[32]⟩] w fun e w' => CutR s e ∧ Below w.heap.size w w' := by
  have hC := fun w => sliteCut s w hs
  unfold CutR at hC ⊢
  obtain ⟨X, hX⟩ : ∃ X, mkB (bef s.data.toList) = X := ⟨_, rfl⟩
  obtain ⟨Y, hY⟩ : ∃ Y, mkB (aft s.data.toList) = Y := ⟨_, rfl⟩
  rw [hX, hY]
  simp only [hX, hY] at hC
  clear hX hY
  go_enter Tryz.func100, Tryz.ntmps100
  go_wp2_with (go_at_call 140; refine (hC _).mono ?_; rintro e w' ⟨⟨b, rfl⟩, hb'⟩)
  go_ret3
  exact ⟨⟨_, rfl⟩, hb'⟩
/-- Does a text end with a line feed? -/
def endB (s : ByteArray) : Bool := decide (s.data.toList.getLast? = some 10)
theorem end_ext {s : ByteArray} (h : 1 ≤ s.size) : ((s.extract (s.size - 1) s.size).toList == ([10] : List UInt8)) = endB s := by
  have hne : s.data.toList ≠ [] := by intro e; rw [← size_eq, e] at h; simp at h
  have e : (s.extract (s.size - 1) s.size).toList = s.data.toList.drop (s.data.toList.length - 1) := by
    rw [ByteArray.toList_eq, extract_data, size_eq, List.take_of_length_le]
    rw [List.length_drop, size_eq]; omega
  have e2 : s.data.toList.drop (s.data.toList.length - 1) = [s.data.toList.getLast hne] := by
    have hl : s.data.toList.length - 1 < s.data.toList.length := by rw [size_eq]; omega
    rw [List.drop_eq_getElem_cons hl, List.getLast_eq_getElem, show s.data.toList.length - 1 + 1 = s.data.toList.length by rw [size_eq]; omega, List.drop_length]
  rw [e, e2]
  unfold endB
  rw [List.getLast?_eq_some_getLast hne]
  generalize s.data.toList.getLast hne = x
  by_cases q : x = 10
  · subst q; rfl
  · rw [decide_eq_false (fun k => q (Option.some.inj k))]
    have : ([x] == ([10] : List UInt8)) = (x == 10 && true) := rfl
    rw [this]
    simp [q]
theorem end_none {s : ByteArray} (h : ¬ 1 ≤ s.size) : endB s = false := by
  have : s.data.toList = [] := List.length_eq_zero_iff.1 (by rw [size_eq]; omega)
  unfold endB
  rw [this]; rfl
theorem trim_yes {s : ByteArray} (h : endB s = true) : mkB (trimL s.data.toList) = s.extract 0 (s.size - 1) ∧ 1 ≤ s.size := by
  have h1 : 1 ≤ s.size := by
    by_cases q : 1 ≤ s.size
    · exact q
    · rw [end_none q] at h; cases h
  refine ⟨?_, h1⟩
  unfold trimL
  rw [if_pos (of_decide_eq_true h)]
  apply bytes_inj2
  rw [ByteArray.toList_eq, ByteArray.toList_eq, mkB_data, extract_data, List.drop_zero, Nat.sub_zero, List.dropLast_eq_take, size_eq]
theorem trim_no {s : ByteArray} (h : endB s = false) : mkB (trimL s.data.toList) = s := by
  unfold trimL
  rw [if_neg (of_decide_eq_false h), mkB_eq]
set_option maxHeartbeats 1000000 in
theorem sliteHasSuffix (s : ByteArray) (w : World) (hs : s.size ≤ 1048576) :
    Calls Tryz.prog 184 #[.string s, .string ⟨#[10]⟩] w fun e w' => e = .returned (.bool (endB s)) ∧ w' = w := by
  by_cases h : 1 ≤ s.size
  · have HR : Hid (((s.extract (s.size - 1) s.size).toList == ([10] : List UInt8)) = endB s) := end_ext h
    have q : (1 : Int) ≤ (s.size : Int) := by omega
    have hw : IntKind.i64.wrap ((s.size : Int) - 1) = ((s.size - 1 : Nat) : Int) := by rw [IntKind.wrap_i64]; omega
    obtain ⟨n, hn⟩ : ∃ n, s.size - 1 = n := ⟨_, rfl⟩
    rw [hn] at HR hw
    have hn2 : n ≤ s.size := by omega
    have hn3 : (n : Int) ≤ (s.size : Int) := by omega
    clear hn
    go_enter Tryz.func184, Tryz.ntmps184
    go_wp2
    go_ret
    exact ⟨ret_bool HR.out, rfl⟩
  · have HR : Hid (endB s = false) := end_none h
    have q : ¬ (1 : Int) ≤ (s.size : Int) := by omega
    go_enter Tryz.func184, Tryz.ntmps184
    go_wp2
    go_ret
    exact ⟨ret_bool HR.out.symm, rfl⟩
set_option maxHeartbeats 1000000 in
theorem sliteTrim (s : ByteArray) (w : World) (hs : s.size ≤ 1048576) :
    Calls Tryz.prog 141 #[.string s, .string ⟨#[10]⟩] w fun e w' => e = .returned (.string (mkB (trimL s.data.toList))) ∧ w' = w := by
  have hH := fun w => sliteHasSuffix s w hs
  cases h : endB s with
  | true =>
    obtain ⟨e1, h1⟩ := trim_yes h
    rw [h] at hH
    rw [e1]
    have hw : IntKind.i64.wrap ((s.size : Int) - 1) = ((s.size - 1 : Nat) : Int) := by rw [IntKind.wrap_i64]; omega
    obtain ⟨n, hn⟩ : ∃ n, s.size - 1 = n := ⟨_, rfl⟩
    rw [hn] at hw ⊢
    have hn2 : n ≤ s.size := by omega
    have hn3 : (n : Int) ≤ (s.size : Int) := by omega
    clear h e1 hn
    go_enter Tryz.func141, Tryz.ntmps141
    go_wp2_with (go_at_call 184; refine (hH _).mono ?_; rintro e w' ⟨rfl, rfl⟩)
    go_ret
    exact ⟨rfl, rfl⟩
  | false =>
    rw [trim_no h]
    rw [h] at hH
    clear h
    go_enter Tryz.func141, Tryz.ntmps141
    go_wp2_with (go_at_call 184; refine (hH _).mono ?_; rintro e w' ⟨rfl, rfl⟩)
    go_ret
    exact ⟨rfl, rfl⟩
theorem trimC (s : ByteArray) (w : World) (hs : s.size ≤ 1048576) :
    Calls Tryz.prog 101 #[.string s, .string ⟨#[10]⟩] w fun e w' => e = .returned (.string (mkB (trimL s.data.toList))) ∧ w' = w := by
  have hH := fun w => sliteTrim s w hs
  obtain ⟨X, hX⟩ : ∃ X, mkB (trimL s.data.toList) = X := ⟨_, rfl⟩
  rw [hX] at hH ⊢
  clear hX
  go_enter Tryz.func101, Tryz.ntmps101
  go_wp2_with (go_at_call 141; refine (hH _).mono ?_; rintro e w' ⟨rfl, rfl⟩)
  go_ret
  exact ⟨rfl, rfl⟩
theorem trim_size (s : ByteArray) : (mkB (trimL s.data.toList)).size ≤ s.size := by
  cases h : endB s with
  | true => rw [(trim_yes h).1]; exact extract_size_le _ _ _
  | false => rw [trim_no h]; exact Nat.le_refl _
/-- What fieldOf answers: the word of a line, and what is behind it. -/
theorem fieldOfC (s : ByteArray) (w : World) (hs : s.size ≤ 1048576) :
    Calls Tryz.prog 61 #[.string s] w fun e w' => e = .returned (.tuple #[.string (mkB (bef (trimL s.data.toList))), .string (mkB (aft (trimL s.data.toList)))]) ∧ Below w.heap.size w w' := by
  have hT := fun w => trimC s w hs
  have hC := fun w => cutC (mkB (trimL s.data.toList)) w (Nat.le_trans (trim_size s) hs)
  unfold CutR at hC
  simp only [mkB_data] at hC
  obtain ⟨X, hX⟩ : ∃ X, mkB (bef (trimL s.data.toList)) = X := ⟨_, rfl⟩
  obtain ⟨Y, hY⟩ : ∃ Y, mkB (aft (trimL s.data.toList)) = Y := ⟨_, rfl⟩
  obtain ⟨Z, hZ⟩ : ∃ Z, mkB (trimL s.data.toList) = Z := ⟨_, rfl⟩
  rw [hX, hY]
  simp only [hX, hY, hZ] at hC hT
  clear hX hY hZ
  go_enter Tryz.func61, Tryz.ntmps61
  go_wp2_with (first | (go_at_call 101; refine (hT _).mono ?_; rintro e w' ⟨rfl, rfl⟩) | (go_at_call 100; refine (hC _).mono ?_; rintro e w' ⟨⟨b, rfl⟩, hb'⟩))
  go_ret2
  exact ⟨rfl, hb'⟩
end Go.Proofs.YtgidcncmicmggamGreatDoor.Te
/- The contracts of spec.l6Unline and spec.l6Split. No statement is proved here. -/
namespace Go.Proofs.YtgidcncmicmggamGreatDoor.Te
open Go.ChangeShapes Go.WideShapes Go.ChangeAt Go.RowKit

theorem byte_cB {c d : UInt8} (h : ((c.toNat : Int) == (d.toNat : Int)) = true) : c = d := by
  apply UInt8.toNat_inj.1
  have := of_decide_eq_true h
  omega
theorem byte_not_cB {c d : UInt8} (h : ((c.toNat : Int) == (d.toNat : Int)) = false) : ¬ c = d := by
  intro e
  rw [e] at h
  simp at h
set_option maxHeartbeats 2000000 in
theorem l6SplitC (s : ByteArray) (w : World) (hs : s.size ≤ 1048576) :
    Calls Tryz.prog 172 #[.string s] w fun e w' => ∃ v, e = .returned v ∧ w'.ownsRow w.heap.size 9 1 v (cutOf 32 s).length ((cutOf 32 s).map Value.string) ∧ Below w.heap.size w w' := by
  obtain ⟨i0, hi, hz0, hz1, hz2⟩ := info_parts infoString
  go_enter Tryz.func172, Tryz.ntmps172
  go_wp2
  go_loopw [3, 4, 5] (fun v f i wr => ∃ (k fr : Nat) (pre : List ByteArray), i = .int .i64 k ∧ f = .int .i64 fr ∧ pre.length ≤ fr ∧ fr ≤ k ∧ ((k ≤ s.size ∧ Hid (cutOf 32 s = pre ++ cutFrom 32 s fr) ∧ Hid (¬ (32 : UInt8) ∈ sg s fr k)) ∨ (k = s.size + 1 ∧ Hid (cutOf 32 s = pre))) ∧
      wr.ownsRow w.heap.size 9 1 v pre.length (pre.map Value.string) ∧ Below w.heap.size w wr ∧ w.heap.size + 1 ≤ wr.heap.size) (fun _ _ i _ => s.size + 1 - (intOf i).toNat)
  case atStart =>
    refine ⟨0, 0, [], rfl, rfl, Nat.le_refl _, Nat.le_refl _, .inl ⟨Nat.zero_le _, rfl, ?_⟩, ?_, (Below.refl _ _).alloc (Nat.le_refl _) _, by simp⟩
    · show ¬ _; simp [sg]
    · exact World.ownsRow_lit w #[] 0 (Nat.le_refl _) (Nat.zero_le _) rfl
  case round =>
    obtain ⟨k, fr, pre, rfl, rfl, hpl, hfk, hcase, hown, hbel, hsz⟩ := hrel
    rcases hcase with ⟨hk, hL, hN⟩ | ⟨ek, hL⟩
    · have q : (k : Int) ≤ (s.size : Int) := by omega
      by_cases hlt : k < s.size
      · have q2 : ((k : Int) == (s.size : Int)) = false := by simp; omega
        by_cases hz : ((s[k].toNat : Int) == 32) = true
        · have hE := cutFrom_at 32 s fr k hfk hlt hN.out (byte_cB hz)
          have hL' : Hid (cutOf 32 s = (pre ++ [s.extract fr k]) ++ cutFrom 32 s (k + 1)) := by
            show _ = _
            rw [hL.out, hE]; simp
          clear hE hL hN
          go_wp2_with (at_builtin; refine wpList_append_own _ rfl (.tmp 23) (.tmp 28) 22 rfl w.heap.size 9 i0 (.string ByteArray.empty) 1 16 Tryz.underlying22 hi hz0 hz1 hz2 rfl (by decide) u3 _ _ rfl (hown.alloc _) ⟨wr.heap.size, 0, none⟩ 1 1 [.string (s.extract fr k)] rfl rfl (cell_one_new _ _ _) (by simp [Value.oneCell']) (by unfold maxLen; omega) (by omega) (by simp; omega) ?_; intro v' w1 hown' hgrow _)
          have hb1 : Below w.heap.size w w1 := (hbel.alloc (by omega) _).grown hgrow (by simp; omega) (fun j hj => (hown.lt j hj).1)
          have hs1 : w.heap.size + 1 ≤ w1.heap.size := by have := hgrow.size; simp at this; omega
          go_roundw
          case rel =>
            refine ⟨k + 1, k + 1, pre ++ [s.extract fr k], by go_num, by go_num, by simp; omega, Nat.le_refl _, .inl ⟨by omega, hL', ?_⟩, ?_, hb1, hs1⟩
            · show ¬ _; simp [sg]
            · simpa using hown'
          case measure => simp [intOf]; omega
        · have hz' : ((s[k].toNat : Int) == 32) = false := by simpa using hz
          have hN' : Hid (¬ (32 : UInt8) ∈ sg s fr (k + 1)) := by
            show ¬ _
            rw [sg_snoc s fr k hfk hlt]
            have := byte_not_cB (d := 32) hz'
            simp only [List.mem_append, List.mem_singleton, not_or]
            exact ⟨hN.out, fun e => this e.symm⟩
          clear hz hN
          go_wp2
          go_roundw
          case rel => exact ⟨k + 1, fr, pre, by go_num, rfl, hpl, by omega, .inl ⟨by omega, hL, hN'⟩, hown, hbel, hsz⟩
          case measure => simp [intOf]; omega
      · have ek : k = s.size := by omega
        subst ek
        have hE := cutFrom_last 32 s fr hN.out
        have hL' : Hid (cutOf 32 s = pre ++ [s.extract fr s.size]) := by
          show _ = _
          rw [hL.out, hE]
        clear hE hL hN q
        go_wp2_with (at_builtin; refine wpList_append_own _ rfl (.tmp 23) (.tmp 28) 22 rfl w.heap.size 9 i0 (.string ByteArray.empty) 1 16 Tryz.underlying22 hi hz0 hz1 hz2 rfl (by decide) u3 _ _ rfl (hown.alloc _) ⟨wr.heap.size, 0, none⟩ 1 1 [.string (s.extract fr s.size)] rfl rfl (cell_one_new _ _ _) (by simp [Value.oneCell']) (by unfold maxLen; omega) (by omega) (by simp; omega) ?_; intro v' w1 hown' hgrow _)
        have hb1 : Below w.heap.size w w1 := (hbel.alloc (by omega) _).grown hgrow (by simp; omega) (fun j hj => (hown.lt j hj).1)
        have hs1 : w.heap.size + 1 ≤ w1.heap.size := by have := hgrow.size; simp at this; omega
        go_roundw
        case rel =>
          refine ⟨s.size + 1, s.size + 1, pre ++ [s.extract fr s.size], by go_num, by go_num, by simp; omega, Nat.le_refl _, .inr ⟨rfl, hL'⟩, ?_, hb1, hs1⟩
          simpa using hown'
        case measure => simp [intOf]
    · have q : ¬ (k : Int) ≤ (s.size : Int) := by omega
      clear ek
      go_wp2
      go_ret
      refine ⟨_, rfl, ?_, hbel⟩
      rw [hL.out]
      exact hown

theorem cut_smallB (c : UInt8) (s : ByteArray) (hs : s.size ≤ 1048576) : ∀ k, k < (cutOf c s).length → ((cutOf c s).getD k ByteArray.empty).size ≤ 9223372036854775807 := by
  intro k hk
  have e : (cutOf c s).getD k ByteArray.empty = (cutOf c s)[k] := by simp [List.getD, hk]
  rw [e]
  have := cutFrom_size c s 0 _ (List.getElem_mem (h := hk))
  omega

theorem last_byte {s : ByteArray} (h : 1 ≤ s.size) : endB s = (((s[s.size - 1]'(by omega)).toNat : Int) == 10) := by
  have hne : s.data.toList ≠ [] := by intro e; rw [← size_eq, e] at h; simp at h
  have e : s.data.toList.getLast hne = s[s.size - 1]'(by omega) := by
    rw [List.getLast_eq_getElem, ← sg_byte s (s.size - 1) (by omega)]
    congr 1
  unfold endB
  rw [List.getLast?_eq_some_getLast hne, e]
  generalize s[s.size - 1]'(by omega) = x
  by_cases q : x = 10
  · subst q; rfl
  · rw [decide_eq_false (fun k => q (Option.some.inj k))]
    symm
    rw [beq_eq_false_iff_ne]
    intro k
    apply q
    apply UInt8.toNat_inj.1
    have : (10 : UInt8).toNat = 10 := rfl
    omega
theorem un_ret {x y : ByteArray} {b c : Bool} (h : x = y) (k : b = c) : Ending.returned (.tuple #[.string x, .bool b]) = .returned (.tuple #[.string y, .bool c]) := by rw [h, k]
/-- What l6Unline answers. -/
def unT (s : ByteArray) : ByteArray := if endB s = true then mkB (trimL s.data.toList) else ⟨#[]⟩
set_option maxHeartbeats 1000000 in
theorem l6UnlineC (s : ByteArray) (w : World) (hs : s.size ≤ 1048576) :
    Calls Tryz.prog 55 #[.string s] w fun e w' => e = .returned (.tuple #[.string (unT s), .bool (endB s)]) ∧ w' = w := by
  by_cases h1 : 1 ≤ s.size
  · have hl := last_byte h1
    have hw : IntKind.i64.wrap ((s.size : Int) - 1) = ((s.size - 1 : Nat) : Int) := by rw [IntKind.wrap_i64]; omega
    have q0 : ((s.size : Int) == 0) = false := beq_eq_false_iff_ne.2 (by omega)
    cases hb : endB s with
    | true =>
      have hT := (trim_yes hb).1
      rw [hb] at hl
      have HU : Hid (unT s = s.extract 0 (s.size - 1)) := by show _ = _; unfold unT; rw [if_pos hb, hT]
      obtain ⟨n, hn⟩ : ∃ n, s.size - 1 = n := ⟨_, rfl⟩
      have hn1 : n < s.size := by omega
      have hl' : ((s[n].toNat : Int) == 10) = true := by
        have := hl.symm
        simp only [hn] at this
        exact this
      rw [hn] at hw HU
      have hn2 : n ≤ s.size := by omega
      have hn3 : (n : Int) < (s.size : Int) := by omega
      have hl2 : ((s[n].toNat : Int) != 10) = false := by rw [bne, hl']; rfl
      clear hT hb hl hn
      go_enter Tryz.func55, Tryz.ntmps55
      go_wp2
      go_ret2
      exact ⟨un_ret HU.out.symm rfl, rfl⟩
    | false =>
      rw [hb] at hl
      have HU : Hid (unT s = ⟨#[]⟩) := by show _ = _; unfold unT; rw [if_neg (by rw [hb]; decide)]
      obtain ⟨n, hn⟩ : ∃ n, s.size - 1 = n := ⟨_, rfl⟩
      have hn1 : n < s.size := by omega
      have hl' : ((s[n].toNat : Int) == 10) = false := by
        have := hl.symm
        simp only [hn] at this
        exact this
      rw [hn] at hw
      have hn3 : (n : Int) < (s.size : Int) := by omega
      have hl2 : ((s[n].toNat : Int) != 10) = true := by rw [bne, hl']; rfl
      clear hb hl hn
      go_enter Tryz.func55, Tryz.ntmps55
      go_wp2
      go_ret2
      exact ⟨un_ret HU.out.symm rfl, rfl⟩
  · have hb := end_none h1
    have HU : Hid (unT s = ⟨#[]⟩) := by show _ = _; unfold unT; rw [if_neg (by rw [hb]; decide)]
    have HB : Hid (endB s = false) := hb
    have q0 : ((s.size : Int) == 0) = true := beq_iff_eq.2 (by omega)
    clear hb
    go_enter Tryz.func55, Tryz.ntmps55
    go_wp2
    go_ret2
    exact ⟨un_ret HU.out.symm HB.out.symm, rfl⟩
end Go.Proofs.YtgidcncmicmggamGreatDoor.Te
/- The contract of spec.l6After. No statement is proved here. -/
namespace Go.Proofs.YtgidcncmicmggamGreatDoor.Dc
open Go.ChangeShapes Go.WideShapes Go.ChangeAt Go.RowKit

/-- How l6After ends: what is behind a word and a blank, or that the line does not begin so. -/
def AF (y wd : ByteArray) (e : Ending) : Prop := (∃ v : ByteArray, e = .returned (.tuple #[.string v, .bool true]) ∧ y.data.toList = wd.data.toList ++ 32 :: v.data.toList) ∨
  (e = .returned (.tuple #[.string ⟨#[]⟩, .bool false]) ∧ ∀ v, ¬ y.data.toList = wd.data.toList ++ 32 :: v)
theorem af_short {y wd : ByteArray} (h : y.size < wd.size + 1) : ∀ v, ¬ y.data.toList = wd.data.toList ++ 32 :: v := fun v e => by
  have := congrArg List.length e
  simp at this
  omega
theorem af_hit {y wd : ByteArray} (h : ((y.extract 0 (wd.size + 1)).toList == (wd ++ ⟨#[32]⟩).toList) = true) : y.data.toList = wd.data.toList ++ 32 :: (y.extract (wd.size + 1) y.size).data.toList := by
  have e : (y.extract 0 (wd.size + 1)).toList = (wd ++ ⟨#[32]⟩).toList := eq_of_beq h
  rw [ByteArray.toList_eq, ByteArray.toList_eq, ByteArray.data_append] at e
  have a1 : (y.extract 0 (wd.size + 1)).data.toList = y.data.toList.take (wd.size + 1) := by rw [extract_data]; simp
  have a2 : (y.extract (wd.size + 1) y.size).data.toList = y.data.toList.drop (wd.size + 1) := by rw [extract_data, List.take_of_length_le (by rw [List.length_drop, size_eq]; omega)]
  rw [a1] at e
  rw [a2]
  have k := List.take_append_drop (wd.size + 1) y.data.toList
  rw [e] at k
  simpa using k.symm
theorem af_miss {y wd : ByteArray} (h : ((y.extract 0 (wd.size + 1)).toList == (wd ++ ⟨#[32]⟩).toList) = false) : ∀ v, ¬ y.data.toList = wd.data.toList ++ 32 :: v := fun v e => by
  have q : (y.extract 0 (wd.size + 1)).toList = (wd ++ ⟨#[32]⟩).toList := by
    rw [ByteArray.toList_eq, ByteArray.toList_eq, ByteArray.data_append]
    have a1 : (y.extract 0 (wd.size + 1)).data.toList = y.data.toList.take (wd.size + 1) := by rw [extract_data]; simp
    rw [a1, e, show wd.data.toList ++ 32 :: v = (wd.data.toList ++ [32]) ++ v by simp, List.take_left' (by simp)]
    simp
  rw [q] at h
  simp at h
set_option maxRecDepth 20000 in
set_option maxHeartbeats 1000000 in
theorem l6AfterC (y wd : ByteArray) (w : World) (hw : wd.size ≤ 10) :
    Calls Tryz.prog 56 #[.string y, .string wd] w fun e w' => Below w.heap.size w w' ∧ AF y wd e := by
  by_cases h1 : y.size < wd.size + 1
  · have q1 : (y.size : Int) < (wd.size : Int) + 1 := by omega
    have HA : Hid (∀ v, ¬ y.data.toList = wd.data.toList ++ 32 :: v) := af_short h1
    go_enter Tryz.func56, Tryz.ntmps56
    go_wp2
    go_ret2
    exact ⟨Below.refl _ _, .inr ⟨rfl, HA.out⟩⟩
  · have q1 : ¬ (y.size : Int) < (wd.size : Int) + 1 := by omega
    have hq : (wd ++ (⟨#[32]⟩ : ByteArray)).size = wd.size + 1 := by rw [ByteArray.size_append]; rfl
    cases e : ((y.extract 0 (wd.size + 1)).toList == (wd ++ (⟨#[32]⟩ : ByteArray)).toList) with
    | false =>
      have HA : Hid (∀ v, ¬ y.data.toList = wd.data.toList ++ 32 :: v) := af_miss e
      go_enter Tryz.func56, Tryz.ntmps56
      go_wp2
      go_ret2
      exact ⟨Below.refl _ _, .inr ⟨rfl, HA.out⟩⟩
    | true =>
      have HA : Hid (y.data.toList = wd.data.toList ++ 32 :: (y.extract (wd.size + 1) y.size).data.toList) := af_hit e
      go_enter Tryz.func56, Tryz.ntmps56
      go_wp2
      go_ret2
      exact ⟨Below.refl _ _, .inl ⟨_, rfl, HA.out⟩⟩
end Go.Proofs.YtgidcncmicmggamGreatDoor.Dc
/- The contracts of spec.l3Digits, l3Head: decimal numbers and a hunk's first line. No statement is proved here. -/
namespace Go.Proofs.YtgidcncmicmggamGreatDoor
open Go.ChangeShapes Go.WideShapes Go.ChangeAt Go.RowKit

/-- A number in decimal. -/
def decB (n : Nat) : ByteArray := ⟨(Lib.decDigits n).toArray⟩

theorem decB_one {n : Nat} (h : n < 10) : decB n = ⟨#[UInt8.ofNat (48 + n)]⟩ := by
  unfold decB; rw [Lib.decDigits, dif_pos h]
theorem decB_more {n : Nat} (h : ¬ n < 10) : decB n = decB (n / 10) ++ ⟨#[UInt8.ofNat (48 + n % 10)]⟩ := by
  unfold decB
  rw [Lib.decDigits, dif_neg h]
  apply bytes_inj2
  simp [ByteArray.toList_eq]
theorem decB_size : ∀ f n : Nat, n ≤ f → (decB n).size ≤ n + 1 := by
  intro f
  induction f with
  | zero =>
    intro n hn
    rw [decB_one (by omega)]
    have : (⟨#[UInt8.ofNat (48 + n)]⟩ : ByteArray).size = 1 := rfl
    omega
  | succ f ih =>
    intro n hn
    by_cases h : n < 10
    · rw [decB_one h]
      have : (⟨#[UInt8.ofNat (48 + n)]⟩ : ByteArray).size = 1 := rfl
      omega
    · rw [decB_more h, ByteArray.size_append]
      have h1 := ih (n / 10) (by omega)
      have : (⟨#[UInt8.ofNat (48 + n % 10)]⟩ : ByteArray).size = 1 := rfl
      omega
/-- A byte that is a digit, told as a text. -/
theorem conv1 (m : Nat) (hm : m < 10) (W : World) (b c : Nat) (hc : W.cell? ⟨b, 0, none⟩ = some (.int .u8 (48 + (m : Int)))) :
    (convert 145 9 (.slice (some ⟨b, 0, none⟩) 1 c)).run Tryz.prog W = .ok (.string ⟨#[UInt8.ofNat (48 + m)]⟩) W :=
  run_convert_bytes_back W 145 9 5 ⟨b, 0, none⟩ c [UInt8.ofNat (48 + m)] Tryz.underlying145 Tryz.underlying5 Tryz.underlying9 (fun j hj => by
    have e : j = 0 := by simpa using hj
    subst e
    have h2 : ((UInt8.ofNat (48 + m)).toNat : Int) = 48 + (m : Int) := by
      rw [UInt8.toNat_ofNat']; omega
    simp only [List.getElem_cons_zero, h2, add_plain]
    exact hc)

theorem newAt {w w1 : World} {v : Value} {t : TypeId} (b : Below ((w.alloc (.cells #[v] t)).drew).heap.size ((w.alloc (.cells #[v] t)).drew) w1) : w1.cell? ⟨w.heap.size, 0, none⟩ = some v := by
  have h : ((w.alloc (.cells #[v] t)).drew).cell? ⟨w.heap.size, 0, none⟩ = some v := by
    show (w.alloc (.cells #[v] t)).cell? ⟨w.heap.size, 0, none⟩ = some v
    simp
  exact (b.cell (p := ⟨w.heap.size, 0, none⟩) (by show w.heap.size < (w.alloc (.cells #[v] t)).heap.size; simp)).trans h
theorem belowNew {w w1 : World} {v : Value} {t : TypeId} (b : Below ((w.alloc (.cells #[v] t)).drew).heap.size ((w.alloc (.cells #[v] t)).drew) w1) : Below w.heap.size w w1 :=
  (below_drew (allocBelow w _)).trans (b.mono (by show w.heap.size ≤ (w.alloc (.cells #[v] t)).heap.size; simp))
set_option maxRecDepth 20000 in
set_option maxHeartbeats 1000000 in
theorem l3DigitsL : ∀ (f n : Nat), n ≤ f → n ≤ 10000000000 → ∀ w : World, Calls Tryz.prog 95 #[.int .i64 (n : Int)] w fun e w' => e = .returned (.string (decB n)) ∧ Below w.heap.size w w' := by
  have base : ∀ n : Nat, n < 10 → ∀ w : World, Calls Tryz.prog 95 #[.int .i64 (n : Int)] w fun e w' => e = .returned (.string (decB n)) ∧ Below w.heap.size w w' := by
    intro n h10 w
    have q : (n : Int) < 10 := by omega
    have hcv := conv1 n h10
    rw [decB_one h10]
    obtain ⟨D, hD⟩ : ∃ D : ByteArray, (⟨#[UInt8.ofNat (48 + n)]⟩ : ByteArray) = D := ⟨_, rfl⟩
    rw [hD] at hcv ⊢
    clear hD
    go_enter Tryz.func95, Tryz.ntmps95
    go_wp2
    go_ret
    exact ⟨rfl, allocBelow _ _⟩
  intro f
  induction f with
  | zero => intro n hn _ w; exact base n (by omega) w
  | succ f ih =>
    intro n hn hb w
    by_cases h10 : n < 10
    · exact base n h10 w
    · have q : ¬ (n : Int) < 10 := by omega
      have hq : (n : Int) / 10 = ((n / 10 : Nat) : Int) := by omega
      have hr : (n : Int) % 10 = ((n % 10 : Nat) : Int) := by omega
      have hcv := conv1 (n % 10) (by omega)
      have hI := ih (n / 10) (by omega) (by omega)
      rw [decB_more h10]
      obtain ⟨m, hm⟩ : ∃ m, n % 10 = m := ⟨_, rfl⟩
      obtain ⟨k, hk⟩ : ∃ k, n / 10 = k := ⟨_, rfl⟩
      rw [hm] at hr hcv ⊢
      rw [hk] at hq hI ⊢
      have hm10 : m < 10 := by omega
      have hq2 : (n : Int).tdiv 10 = (k : Int) := by rw [Int.tdiv_eq_ediv_of_nonneg (by omega)]; exact hq
      have hr2 : (n : Int).tmod 10 = (m : Int) := by rw [Int.tmod_eq_emod_of_nonneg (by omega)]; exact hr
      obtain ⟨D, hD⟩ : ∃ D : ByteArray, (⟨#[UInt8.ofNat (48 + m)]⟩ : ByteArray) = D := ⟨_, rfl⟩
      rw [hD] at hcv ⊢
      have hDs : D.size = 1 := by rw [← hD]; rfl
      obtain ⟨E, hE⟩ : ∃ E, decB k = E := ⟨_, rfl⟩
      have hEs := decB_size k k (Nat.le_refl _)
      rw [hE] at hI hEs ⊢
      have hcs : ¬ 9223372036854775807 < E.size + D.size := by omega
      have hcs2 : ¬ 9223372036854775807 < E.size + 1 := by omega
      have hk1 : k ≤ n := by omega
      have hw1 : IntKind.i64.wrap (k : Int) = (k : Int) := by rw [IntKind.wrap_i64]; omega
      have hw2 : IntKind.i64.wrap (m : Int) = (m : Int) := by rw [IntKind.wrap_i64]; omega
      have hw3 : IntKind.i64.wrap (48 + (m : Int)) = 48 + (m : Int) := by rw [IntKind.wrap_i64]; omega
      have hw4 : IntKind.u8.wrap (48 + (m : Int)) = 48 + (m : Int) := by rw [IntKind.wrap_u8]; omega
      clear hm hk hD hE
      go_enter Tryz.func95, Tryz.ntmps95
      go_wp2
      go_region_with (go_at_call 95; refine (hI _).mono ?_; rintro e w1 ⟨rfl, b1⟩; try have hcl := newAt b1)
      all_goals (go_wp2_with fail)
      all_goals go_ret
      all_goals first | exact ⟨rfl, belowNew b1⟩ | exact ⟨rfl, (below_drew (Below.refl _ w)).trans ((b1.alloc b1.size _).mono (Nat.le_refl _))⟩
theorem l3Digits (f n : Nat) (h : n ≤ f) (hb : n ≤ 1000000000) (w : World) : Calls Tryz.prog 95 #[.int .i64 (n : Int)] w fun e w' => e = .returned (.string (decB n)) ∧ Below w.heap.size w w' := l3DigitsL f n h (by omega) w
end Go.Proofs.YtgidcncmicmggamGreatDoor
/- The contract of spec.l6Time. No statement is proved here. -/
namespace Go.Proofs.YtgidcncmicmggamGreatDoor.Dc
open Go.ChangeShapes Go.WideShapes Go.ChangeAt Go.RowKit

/-- How l6Time ends. -/
def TM (t : ByteArray) (e : Ending) : Prop := (∃ n : Int, tI t.data.toList = some n ∧ e = .returned (.tuple #[.int .i64 n, .bool true])) ∨ (tI t.data.toList = none ∧ ∃ n : Int, e = .returned (.tuple #[.int .i64 n, .bool false]))
theorem tI_len {v : List UInt8} (h : v.length < 1 ∨ 10 < v.length) : tI v = none := if_neg fun q => by omega
theorem tI_bad {v : List UInt8} {k : Nat} (hk : k < v.length) (h : ¬ Dg v[k]) : tI v = none := if_neg fun q => by
  have hq := List.all_eq_true.1 q.2.2.1 _ (List.getElem_mem hk)
  have hq' : 48 ≤ v[k].toNat ∧ v[k].toNat ≤ 57 := of_decide_eq_true hq
  exact h hq'
theorem tI_all {v : List UInt8} (h1 : 1 ≤ v.length) (h2 : v.length ≤ 10) (hd : ∀ c ∈ v, Dg c) : tI v = (if Lib.decDigits (valF 0 v) = v then some ((valF 0 v : Nat) : Int) else none : Option Int) := by
  unfold tI
  by_cases e : Lib.decDigits (valF 0 v) = v
  · rw [if_pos e, if_pos ⟨h1, h2, List.all_eq_true.2 fun c hc => decide_eq_true (hd c hc), e⟩]
  · rw [if_neg e, if_neg fun q => e q.2.2.2]
theorem val_take (v : List UInt8) (k : Nat) (hk : k < v.length) : valF 0 (v.take (k + 1)) = valF 0 (v.take k) * 10 + (v[k].toNat - 48) := by
  rw [List.take_succ_eq_append_getElem hk, valF_app]
theorem val_lt (v : List UInt8) : ∀ k, k ≤ v.length → (∀ j, (h : j < v.length) → j < k → Dg v[j]) → valF 0 (v.take k) < 10 ^ k
  | 0, _, _ => by rw [List.take_zero, valF_nil]; decide
  | k + 1, hk, hd => by
    have ih := val_lt v k (by omega) (fun j hj h => hd j hj (by omega))
    have d := (hd k (by omega) (by omega)).2
    rw [val_take v k (by omega), Nat.pow_succ]
    omega
theorem pow_le10 {k : Nat} (h : k ≤ 10) : 10 ^ k ≤ 10000000000 := by
  have := Nat.pow_le_pow_right (n := 10) (by decide) h
  exact this
theorem at_byte (t : ByteArray) (k : Nat) (h : k < t.size) : t.data.toList[k]'(by rw [size_eq]; exact h) = t[k] := by simp [ByteArray.getElem_eq_getElem_data]
set_option maxRecDepth 20000 in
set_option maxHeartbeats 2000000 in
theorem l6TimeC (t : ByteArray) (w : World) (ht : t.size ≤ 1048576) :
    Calls Tryz.prog 57 #[.string t] w fun e w' => Below w.heap.size w w' ∧ TM t e := by
  by_cases h1 : t.size < 1
  · have q1 : (t.size : Int) < 1 := by omega
    have HA : Hid (tI t.data.toList = none) := tI_len (.inl (by rw [size_eq]; exact h1))
    go_enter Tryz.func57, Tryz.ntmps57
    go_wp2
    go_ret2
    exact ⟨Below.refl _ _, .inr ⟨HA.out, _, rfl⟩⟩
  have q1 : ¬ (t.size : Int) < 1 := by omega
  by_cases h2 : 10 < t.size
  · have q2 : (10 : Int) < (t.size : Int) := by omega
    have HA : Hid (tI t.data.toList = none) := tI_len (.inr (by rw [size_eq]; exact h2))
    go_enter Tryz.func57, Tryz.ntmps57
    go_wp2
    go_ret2
    exact ⟨Below.refl _ _, .inr ⟨HA.out, _, rfl⟩⟩
  have q2 : ¬ (10 : Int) < (t.size : Int) := by omega
  have HB : ∀ k, (h : k < t.size) → ¬ Dg t[k] → Hid (tI t.data.toList = none) := fun k hk h => tI_bad (k := k) (by rw [size_eq]; exact hk) (by rw [at_byte t k hk]; exact h)
  have HV : ∀ k, (h : k < t.size) → valF 0 (t.data.toList.take (k + 1)) = valF 0 (t.data.toList.take k) * 10 + (t[k].toNat - 48) := fun k hk => by rw [val_take _ k (by rw [size_eq]; exact hk), at_byte t k hk]
  have HL : ∀ k, k ≤ t.size → (∀ j, (h : j < t.size) → j < k → Dg t[j]) → valF 0 (t.data.toList.take k) < 10000000000 := fun k hk hd => Nat.lt_of_lt_of_le (val_lt _ k (by rw [size_eq]; exact hk) (fun j hj h => by
    have hj' : j < t.size := by rw [size_eq] at hj; exact hj
    rw [at_byte t j hj']; exact hd j hj' h)) (pow_le10 (by omega))
  have HE : (∀ j, (h : j < t.size) → Dg t[j]) → tI t.data.toList = (if Lib.decDigits (valF 0 t.data.toList) = t.data.toList then some ((valF 0 t.data.toList : Nat) : Int) else none : Option Int) := fun hd => tI_all (by rw [size_eq]; omega) (by rw [size_eq]; omega) (fun c hc => by
    obtain ⟨j, hj, e⟩ := List.mem_iff_getElem.1 hc
    have hj' : j < t.size := by rw [size_eq] at hj; exact hj
    rw [← e, at_byte t j hj']; exact hd j hj')
  have HF : t.data.toList.take t.size = t.data.toList := List.take_of_length_le (by rw [size_eq]; exact Nat.le_refl _)
  obtain ⟨V, hV⟩ : ∃ V : Nat → Nat, (fun k => valF 0 (t.data.toList.take k)) = V := ⟨_, rfl⟩
  have hVk : ∀ k, valF 0 (t.data.toList.take k) = V k := fun k => by rw [← hV]
  have hV0 : V 0 = 0 := by rw [← hVk, List.take_zero, valF_nil]
  simp only [hVk] at HV HL
  have HVT : valF 0 t.data.toList = V t.size := by rw [← hVk, HF]
  rw [HVT] at HE
  clear hV hVk HF HVT h1 h2
  go_enter Tryz.func57, Tryz.ntmps57
  go_wp2
  go_loopw [4, 5] (fun a i wr => ∃ k : Nat, k ≤ t.size ∧ i = .int .i64 k ∧ a = .int .i64 (V k : Nat) ∧ Hid (∀ j, (h : j < t.size) → j < k → Dg t[j]) ∧ Below w.heap.size w wr) (fun _ i _ => t.size - (intOf i).toNat)
  case atStart => exact ⟨0, by omega, rfl, by rw [hV0]; rfl, fun j _ hj => by omega, Below.refl _ _⟩
  case round =>
    obtain ⟨k, hk, rfl, rfl, hn, hbel⟩ := hrel
    have hVb := HL k hk hn.out
    by_cases hlt : k < t.size
    · have hkI : (k : Int) < (t.size : Int) := by omega
      have hb := HB k hlt
      have hv := HV k hlt
      have hgo : Dg t[k] → Hid (∀ j, (h : j < t.size) → j < k + 1 → Dg t[j]) := fun e j hj h1 => by
        by_cases ej : j = k
        · subst ej; exact e
        · exact hn.out j hj (by omega)
      clear HB HV HL HE hn
      by_cases e1 : (t[k].toNat : Int) < 48
      · have HR := hb (fun q => by have := q.1; omega)
        clear hb hgo
        go_wp2
        go_ret2
        exact ⟨hbel, .inr ⟨HR.out, _, rfl⟩⟩
      by_cases e2 : (57 : Int) < (t[k].toNat : Int)
      · have HR := hb (fun q => by have := q.2; omega)
        clear hb hgo
        go_wp2
        go_ret2
        exact ⟨hbel, .inr ⟨HR.out, _, rfl⟩⟩
      have HN := hgo ⟨by omega, by omega⟩
      have HV1 : Hid (((V (k + 1) : Nat) : Int) = (V k : Nat) * 10 + ((t[k].toNat : Int) - 48)) := by show _ = _; rw [hv]; omega
      have w1 : IntKind.i64.wrap ((V k : Nat) * 10 : Int) = (V k : Nat) * 10 := by rw [IntKind.wrap_i64]; omega
      have w2 : IntKind.u8.wrap ((t[k].toNat : Int) - 48) = (t[k].toNat : Int) - 48 := by rw [IntKind.wrap_u8]; omega
      have w3 : IntKind.i64.wrap ((t[k].toNat : Int) - 48) = (t[k].toNat : Int) - 48 := by rw [IntKind.wrap_i64]; omega
      have w4 : IntKind.i64.wrap ((V k : Nat) * 10 + ((t[k].toNat : Int) - 48)) = (V k : Nat) * 10 + ((t[k].toNat : Int) - 48) := by rw [IntKind.wrap_i64]; omega
      clear hb hgo hv
      go_wp2
      go_roundw
      case rel => exact ⟨k + 1, by omega, by go_num, by rw [HV1.out], HN, hbel⟩
      case measure => simp [intOf]; omega
    · have hkI : ¬ (k : Int) < (t.size : Int) := by omega
      obtain rfl : k = t.size := by omega
      have hE := HE (fun j hj => hn.out j hj hj)
      have hD := fun w => l3DigitsL (V t.size) (V t.size) (Nat.le_refl _) (by omega) w
      have hS : Hid ((Lib.decDigits (V t.size) = t.data.toList) ↔ ((decB (V t.size)).toList == t.toList) = true) := by
        show _ ↔ _
        rw [beq_iff_eq, ByteArray.toList_eq, ByteArray.toList_eq]
        exact Iff.rfl
      obtain ⟨n, hVn⟩ : ∃ n, V t.size = n := ⟨_, rfl⟩
      rw [hVn] at hE hD hS hVb ⊢
      obtain ⟨D, hDD⟩ : ∃ D, decB n = D := ⟨_, rfl⟩
      rw [hDD] at hS
      simp only [hDD] at hD
      have HE' : Hid (tI t.data.toList = (if Lib.decDigits n = t.data.toList then some ((n : Nat) : Int) else none : Option Int)) := hE
      clear HB HV HL HE hn hE hDD hVn hV0
      go_wp2_with fail
      refine (hD _).mono ?_; rintro e w1 ⟨rfl, b1⟩
      have HB1 : Hid (Below w.heap.size w w1) := hbel.trans (b1.mono hbel.size)
      clear hD b1 hbel
      cases eq : (D.toList == t.toList) with
      | true =>
        have HT : Hid (tI t.data.toList = some (n : Int)) := by show _ = _; rw [HE'.out, if_pos (hS.out.2 eq)]
        go_wp2
        go_ret2
        exact ⟨HB1.out, .inl ⟨_, HT.out, rfl⟩⟩
      | false =>
        have HT : Hid (tI t.data.toList = none) := by show _ = _; rw [HE'.out, if_neg (fun q => by rw [hS.out.1 q] at eq; cases eq)]
        go_wp2
        go_ret2
        exact ⟨HB1.out, .inr ⟨HT.out, _, rfl⟩⟩
end Go.Proofs.YtgidcncmicmggamGreatDoor.Dc
/- The lines of a commit, one behind another: what the specification has made behind k of them. No statement is proved here. -/
namespace Go.Proofs.YtgidcncmicmggamGreatDoor.Dc
open Go.Proofs.YtgidcncmicmggamGreatDoor.Te

theorem st_open {x wd : ByteArray} (h : endB x = false) : stW wd.data.toList x.data.toList = none := by
  unfold stW
  rw [if_neg (fun q => of_decide_eq_false h q.1)]
theorem un_end {x : ByteArray} (h : endB x = true) : (unT x).data.toList = x.data.toList.dropLast := by
  unfold unT
  rw [if_pos h, mkB_data]
  unfold trimL
  rw [if_pos (of_decide_eq_true h)]
theorem st_hit {x wd v : ByteArray} (h : endB x = true) (hv : (unT x).data.toList = wd.data.toList ++ 32 :: v.data.toList) : stW wd.data.toList x.data.toList = some v.data.toList := by
  rw [un_end h] at hv
  unfold stW
  rw [if_pos ⟨of_decide_eq_true h, by rw [hv, List.isPrefixOf_iff_prefix]; exact ⟨v.data.toList, by simp⟩⟩, hv]
  rw [show wd.data.toList ++ 32 :: v.data.toList = (wd.data.toList ++ [32]) ++ v.data.toList by simp, List.drop_left' (by simp)]
theorem st_miss {x wd : ByteArray} (h : endB x = true) (hv : ∀ v, ¬ (unT x).data.toList = wd.data.toList ++ 32 :: v) : stW wd.data.toList x.data.toList = none := by
  unfold stW
  refine if_neg fun q => ?_
  obtain ⟨r, hr⟩ := List.isPrefixOf_iff_prefix.1 q.2
  refine hv r ?_
  rw [un_end h, ← hr]
  simp
/-- What the specification has made behind k lines. -/
def cT (xs : List (List UInt8)) (k : Nat) : ByteArray := if 0 < k then mkB (txt xs 0) else ⟨#[]⟩
def cP (xs : List (List UInt8)) (k : Nat) : List ByteArray := (List.range (min (k - 1) (xs.length - 3))).map (fun i => mkB (txt xs (i + 1)))
def cM (xs : List (List UInt8)) (k : Nat) : Int := if xs.length - 2 < k then (tI (txt xs (xs.length - 2))).getD 0 else 0
def cN (xs : List (List UInt8)) (k : Nat) : ByteArray := if xs.length - 1 < k then mkB (txt xs (xs.length - 1)) else ⟨#[]⟩
def cG (xs : List (List UInt8)) (k : Nat) : Prop := (∀ i, i < k → (stW (wOf xs.length i).data.toList (xs.getD i [])).isSome = true) ∧ (xs.length - 2 < k → (tI (txt xs (xs.length - 2))).isSome = true)
theorem c_zero (xs : List (List UInt8)) : cT xs 0 = ⟨#[]⟩ ∧ cP xs 0 = [] ∧ cM xs 0 = 0 ∧ cN xs 0 = ⟨#[]⟩ ∧ cG xs 0 :=
  ⟨if_neg (by omega), by simp [cP], if_neg (by omega), if_neg (by omega), fun i h => by omega, fun h => by omega⟩
theorem c_all {xs : List (List UInt8)} (h3 : 3 ≤ xs.length) (h : cG xs xs.length) : sOk tI xs ∧ sCm tI xs = (cT xs xs.length, cP xs xs.length, cM xs xs.length, cN xs xs.length) := by
  refine ⟨⟨h3, h.1, h.2 (by omega)⟩, ?_⟩
  unfold sCm cT cP cM cN
  rw [if_pos (by omega), if_pos (by omega), if_pos (by omega), show min (xs.length - 1) (xs.length - 3) = xs.length - 3 by omega]
theorem txt_of {xs : List (List UInt8)} {k : Nat} {v : ByteArray} (h : stW (wOf xs.length k).data.toList (xs.getD k []) = some v.data.toList) : mkB (txt xs k) = v := by
  unfold txt; rw [h]; rfl
theorem cG_bad {xs : List (List UInt8)} {k : Nat} (hk : k < xs.length) (h : stW (wOf xs.length k).data.toList (xs.getD k []) = none) : ¬ sOk tI xs := fun q => by
  have := q.2.1 k hk
  rw [h] at this
  cases this
theorem cG_time {xs : List (List UInt8)} {k : Nat} (hk : k + 2 = xs.length) {v : ByteArray} (h : stW (wOf xs.length k).data.toList (xs.getD k []) = some v.data.toList) (ht : tI v.data.toList = none) : ¬ sOk tI xs := fun q => by
  have := q.2.2
  rw [show xs.length - 2 = k by omega, show txt xs k = v.data.toList by unfold txt; rw [h]; rfl, ht] at this
  cases this
theorem cG_step {xs : List (List UInt8)} {k : Nat} {v : ByteArray} (h3 : 3 ≤ xs.length) (hg : cG xs k) (h : stW (wOf xs.length k).data.toList (xs.getD k []) = some v.data.toList) (ht : k + 2 = xs.length → (tI v.data.toList).isSome = true) : cG xs (k + 1) := by
  refine ⟨fun i hi => ?_, fun hn => ?_⟩
  · by_cases e : i = k
    · subst e; rw [h]; rfl
    · exact hg.1 i (by omega)
  · by_cases e : k + 2 = xs.length
    · rw [show xs.length - 2 = k by omega, show txt xs k = v.data.toList by unfold txt; rw [h]; rfl]
      exact ht e
    · exact hg.2 (by omega)
theorem step_tree {xs : List (List UInt8)} (h3 : 3 ≤ xs.length) {v : ByteArray} (h : stW (wOf xs.length 0).data.toList (xs.getD 0 []) = some v.data.toList) : cT xs 1 = v ∧ cP xs 1 = cP xs 0 ∧ cM xs 1 = cM xs 0 ∧ cN xs 1 = cN xs 0 := by
  refine ⟨?_, by simp [cP], ?_, ?_⟩
  · unfold cT; rw [if_pos (by omega), txt_of h]
  · unfold cM; rw [if_neg (by omega), if_neg (by omega)]
  · unfold cN; rw [if_neg (by omega), if_neg (by omega)]
theorem step_par {xs : List (List UInt8)} {k : Nat} (h0 : 0 < k) (hk : k + 2 < xs.length) {v : ByteArray} (h : stW (wOf xs.length k).data.toList (xs.getD k []) = some v.data.toList) : cT xs (k + 1) = cT xs k ∧ cP xs (k + 1) = cP xs k ++ [v] ∧ cM xs (k + 1) = cM xs k ∧ cN xs (k + 1) = cN xs k := by
  refine ⟨?_, ?_, ?_, ?_⟩
  · unfold cT; rw [if_pos (by omega), if_pos (by omega)]
  · unfold cP
    rw [show min (k + 1 - 1) (xs.length - 3) = (k - 1) + 1 by omega, show min (k - 1) (xs.length - 3) = k - 1 by omega, List.range_succ, List.map_append, List.map_singleton, show k - 1 + 1 = k by omega, txt_of h]
  · unfold cM; rw [if_neg (by omega), if_neg (by omega)]
  · unfold cN; rw [if_neg (by omega), if_neg (by omega)]
theorem step_time {xs : List (List UInt8)} {k : Nat} (h0 : 0 < k) (hk : k + 2 = xs.length) {v : ByteArray} {n : Int} (h : stW (wOf xs.length k).data.toList (xs.getD k []) = some v.data.toList) (ht : tI v.data.toList = some n) : cT xs (k + 1) = cT xs k ∧ cP xs (k + 1) = cP xs k ∧ cM xs (k + 1) = n ∧ cN xs (k + 1) = cN xs k := by
  refine ⟨?_, ?_, ?_, ?_⟩
  · unfold cT; rw [if_pos (by omega), if_pos (by omega)]
  · unfold cP; rw [show min (k + 1 - 1) (xs.length - 3) = min (k - 1) (xs.length - 3) by omega]
  · unfold cM; rw [if_pos (by omega), show xs.length - 2 = k by omega, show txt xs k = v.data.toList by unfold txt; rw [h]; rfl, ht]; rfl
  · unfold cN; rw [if_neg (by omega), if_neg (by omega)]
theorem step_note {xs : List (List UInt8)} {k : Nat} (h3 : 3 ≤ xs.length) (hk : k + 1 = xs.length) {v : ByteArray} (h : stW (wOf xs.length k).data.toList (xs.getD k []) = some v.data.toList) : cT xs (k + 1) = cT xs k ∧ cP xs (k + 1) = cP xs k ∧ cM xs (k + 1) = cM xs k ∧ cN xs (k + 1) = v := by
  refine ⟨?_, ?_, ?_, ?_⟩
  · unfold cT; rw [if_pos (by omega), if_pos (by omega)]
  · unfold cP; rw [show min (k + 1 - 1) (xs.length - 3) = min (k - 1) (xs.length - 3) by omega]
  · unfold cM; rw [if_pos (by omega), if_pos (by omega)]
  · unfold cN; rw [if_pos (by omega), show xs.length - 1 = k by omega, txt_of h]
/-- The word of a line, by its place. -/
theorem w_tree {n : Nat} (h : 3 ≤ n) : wOf n 0 = wTree := by unfold wOf; rw [if_neg (by omega), if_neg (by omega), if_pos rfl]
theorem w_par {n k : Nat} (h0 : 0 < k) (h : k + 2 < n) : wOf n k = wPar := by unfold wOf; rw [if_neg (by omega), if_neg (by omega), if_neg (by omega)]
theorem w_time {n k : Nat} (h : k + 2 = n) : wOf n k = wTime := by unfold wOf; rw [if_neg (by omega), if_pos h]
theorem w_note {n k : Nat} (h : k + 1 = n) : wOf n k = wNote := by unfold wOf; rw [if_pos h]
theorem cP_len (xs : List (List UInt8)) (k : Nat) : (cP xs k).length ≤ xs.length := by unfold cP; rw [List.length_map, List.length_range]; omega
theorem stW_len {w x v : List UInt8} (h : stW w x = some v) : v.length ≤ x.length := by
  rw [stW_some h]; simp; omega
theorem txt_len (xs : List (List UInt8)) (i : Nat) : (txt xs i).length ≤ (xs.getD i []).length := by
  unfold txt
  cases h : stW (wOf xs.length i).data.toList (xs.getD i []) with
  | none => simp
  | some v => exact stW_len h
theorem cP_size {xs : List (List UInt8)} {k M : Nat} (h : ∀ i, i < xs.length → (xs.getD i []).length ≤ M) (j : Nat) (hj : j < (cP xs k).length) : ((cP xs k).getD j ByteArray.empty).size ≤ M := by
  have hj' : j < min (k - 1) (xs.length - 3) := by unfold cP at hj; rwa [List.length_map, List.length_range] at hj
  have e : (cP xs k).getD j ByteArray.empty = mkB (txt xs (j + 1)) := by
    unfold cP
    simp only [List.getD]
    rw [List.getElem?_map, List.getElem?_range hj']
    rfl
  rw [e, ← size_eq, mkB_data]
  exact Nat.le_trans (txt_len xs (j + 1)) (h (j + 1) (by omega))
end Go.Proofs.YtgidcncmicmggamGreatDoor.Dc
/- A region that draws its order, inside a round of a range over a function: walked as outside of it, its loads first. No statement is proved here. -/
namespace Go.Proofs.YtgidcncmicmggamGreatDoor
open Go.RowKit

def noOut (Q : Exit → Act → World → Prop) (e : Exit) (a : Act) (w : World) : Prop := e ≠ .outgrown ∧ Q e a w
theorem not_out (Q : Exit → Act → World → Prop) : ¬ LetsOut (noOut Q) := fun ⟨_, _, h⟩ => h.1 rfl
theorem op_round {P : Program} {o : Oper} {l n : Nat} {a : Act} {w : World} {K K' : Act → World → Prop} {Q : Exit → Act → World → Prop} (hd : ∀ c, o.op ≠ .defer c) (hK : ∀ a w, K a w → K' a w)
    (h : o.wp P a w K (noOut Q)) : o.wpIn (Fence.wide.inRound l) n P a w K' Q := by
  refine ⟨fun _ _ => trivial, ?_⟩
  rw [Oper.semAt_plain _ _ _ hd]
  unfold Oper.wp at h
  generalize (execOp a.eval o).run P w = r at h ⊢
  have he : ∀ (f : FuncId) (args : Array Value) (w' : World), Calls P f args w' (fun
      | .returned v, w'' => K (a.put o.dst v) w''
      | .panicked chain, w'' => noOut Q (.panic chain) a w''
      | .outgrown, _ => LetsOut (noOut Q)) → CallsIn (Fence.wide.inRound l) (n - 1) P f args w' fun
      | .returned v, w'' => K' (a.put o.dst v) w''
      | .panicked chain, w'' => Q (.panic chain) a w''
      | .outgrown, _ => LetsOut Q := fun f args w' hc => CallsIn.inRound l (callsIn_wide.2 (hc.mono fun e w'' q => by
    cases e with
    | returned v => exact hK _ _ q
    | panicked c => exact q.2
    | outgrown => exact absurd q (not_out Q)))
  cases r with
  | ok x w' =>
    cases x with
    | value v => exact hK _ _ h
    | skip => exact hK _ _ h
    | defer d => exact hK _ _ h
    | enter f args => exact ⟨fun e => (by cases e), he f args w' h⟩
    | row row args => exact ⟨fun e => (by cases e), fun c cs _ => let ⟨v, w', r, s⟩ := h c cs; ⟨v, w', hK _ _ r, stepsIn_wide.2 s⟩⟩
    | round => exact h.elim
    | _ => exact h.elim
  | halt x w' =>
    cases x with
    | panic v => exact h.2
    | _ => exact h.elim
theorem any_round {P : Program} {md : Region.Mode} {ops : Array Oper} {l n : Nat} {Q : Exit → Act → World → Prop} (hd : ∀ (i : Nat) (o : Oper), ops[i]? = some o → ∀ c, o.op ≠ .defer c) :
    ∀ (fuel : Nat) (listed : Array Bool) (a : Act) (w : World), wpAny P md ops (noOut Q) fuel listed a w → wpAnyIn (Fence.wide.inRound l) n P md ops Q fuel listed a w
  | 0, _, _, _, h => ⟨h.1, h.2.2⟩
  | fuel + 1, listed, a, w, h => ⟨fun e => (h.1 e).2, fun i hi => by
    have h2 := h.2 i hi
    unfold wpOp at h2
    unfold wpOpIn
    cases e : ops[i]? with
    | none => rw [e] at h2; exact any_round hd fuel _ a w h2
    | some o =>
      rw [e] at h2
      simp only at h2 ⊢
      split
      · rename_i hw
        rw [if_pos hw] at h2
        rcases h2 with h2 | h2
        · exact op_round (hd i o e) (fun a' w' q => any_round hd fuel _ a' w' q) h2
        · exact absurd h2.2 (not_out Q)
      · rename_i hw
        rw [if_neg hw] at h2
        exact ⟨fun _ _ => trivial, any_round hd fuel _ _ w h2⟩⟩
/-- No operation of a region is a defer statement. -/
def noDefer (ops : Array Oper) : Bool := ops.all fun o => match o.op with
  | .defer _ => false
  | _ => true
theorem noDefer_spec {ops : Array Oper} (h : noDefer ops = true) (i : Nat) (o : Oper) (hi : ops[i]? = some o) (c : Call) : o.op ≠ .defer c := fun e => by
  have h1 := Array.all_eq_true'.1 h o (Array.mem_of_getElem? hi)
  rw [e] at h1
  cases h1
theorem region_round {P : Program} {ops : Array Oper} {l n id : Nat} {Q : Exit → Act → World → Prop} {S : World → Prop} {a : Act} {w : World} (hm : P.follows .mixedOrders = true) (hd : noDefer ops = true) (hS : S w.drew)
    (h : S w.drew → wpAnyH P .any ops (noOut Q) S ops.size (Array.replicate ops.size false) a w.drew) : (Code.region id ops true).wpIn (Fence.wide.inRound l) n P Q a w :=
  wpIn_region_any hm (any_round (noDefer_spec hd) _ _ _ _ (wpAny_of_held _ _ _ _ (h hS)))
end Go.Proofs.YtgidcncmicmggamGreatDoor
