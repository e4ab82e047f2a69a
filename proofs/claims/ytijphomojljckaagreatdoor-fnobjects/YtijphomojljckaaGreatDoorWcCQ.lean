/- The contract of the program's writeCommit. No statement is proved here. -/
import Derived.Test.YtijphomojljckaaGreatDoorRows
import Derived.Test.YtijphomojljckaaGreatDoorLemQ
import Derived.Test.YtijphomojljckaaGreatDoorInQ
import Derived.Test.YtijphomojljckaaGreatDoorComQ
import Derived.Test.YtijphomojljckaaGreatDoorHkTQ
import Derived.Test.YtijphomojljckaaGreatDoorIdLQ
import Derived.Test.YtijphomojljckaaGreatDoorTeLQ
import Derived.Test.YtijphomojljckaaGreatDoorTrCQ
import Derived.Test.YtijphomojljckaaGreatDoorJnCQ
import Derived.Test.YtijphomojljckaaGreatDoorBldGQ
import Derived.Test.YtijphomojljckaaGreatDoorNtCQ
import Derived.Test.YtijphomojljckaaGreatDoorCfSQ
import Derived.Test.YtijphomojljckaaGreatDoorFpSQ
import Derived.WalkKit
import Derived.ProofKit
import Derived.Below
import Derived.WalkSpells
import Derived.Deep.RegionWith
import Derived.Deep.QuietTactic
import Derived.BigQuiet
namespace Go.Proofs.YtijphomojljckaaGreatDoor
open Go.ChangeShapes Go.WideShapes Go.ChangeAt Go.RowKit

def wTree : ByteArray := ⟨#[116, 114, 101, 101]⟩
def wPar : ByteArray := ⟨#[112, 97, 114, 101, 110, 116]⟩
def wTime : ByteArray := ⟨#[116, 105, 109, 101]⟩
def wNote : ByteArray := ⟨#[110, 111, 116, 101]⟩
/-- The text of a commit. -/
def cmP (t : ByteArray) (ps : List ByteArray) : List UInt8 := wl [wTree, t] ++ ps.flatMap (fun p => wl [wPar, p])
def cmL (t : ByteArray) (ps : List ByteArray) (tm : Int) (no : ByteArray) : List UInt8 := cmP t ps ++ wl [wTime, itB tm] ++ wl [wNote, no]
/-- What writeCommit answers. -/
def WC (b : Nat) (t : ByteArray) (ps : List ByteArray) (tm : Int) (no : ByteArray) (w : World) (e : Ending) (w' : World) : Prop :=
  Below b w w' ∧ ((cmF t ps tm no = 0 ∧ e = .returned .nilIface ∧ TB b b (cmL t ps tm no) w') ∨ (¬ cmF t ps tm no = 0 ∧ e = .returned (.iface 78 (.agg #[.int .i64 (cmF t ps tm no)]))))
theorem wc_fault {c d : Int} (h : c = d) : Ending.returned (.iface 78 (.agg #[.int .i64 c])) = .returned (.iface 78 (.agg #[.int .i64 d])) := by rw [h]
theorem inB_lo {tm : Int} (h : inB tm 0 1000000000 = true) : 0 ≤ tm ∧ tm ≤ 1000000000 := by
  unfold inB at h
  simp at h
  omega
theorem inB_out {tm : Int} (h : inB tm 0 1000000000 = false) : tm < 0 ∨ 1000000000 < tm := by
  unfold inB at h
  simp at h
  omega

set_option maxRecDepth 20000 in
set_option maxHeartbeats 2000000 in
theorem writeCommit_faults (b : Nat) (t : ByteArray) (a : Option Addr) (c : Nat) (ps : List ByteArray) (tm : Int) (no : ByteArray) (w : World) (hbw : b < w.heap.size) (h : SS w a ps) (hc : ps.length ≤ c) (hn : ps.length ≤ 1048576) (hf : ¬ cmF t ps tm no = 0) :
    Calls Tryz.prog 48 #[.pointer (some ⟨b, 0, none⟩), .agg #[.string t, .slice a ps.length c, .int .i64 tm, .string no]] w fun e w' => WC b t ps tm no w e w' := by
  obtain ⟨W1, hW1⟩ : ∃ W, w.alloc (.cells #[.string t, .slice a ps.length c, .int .i64 tm, .string no] 34) = W := ⟨_, rfl⟩
  have b1 : Below w.heap.size w W1 := by rw [← hW1]; exact allocBelow _ _
  have b1' : Below b w W1 := b1.mono (by omega)
  have r1 : Rf W1 w.heap.size [.string t, .slice a ps.length c, .int .i64 tm, .string no] := by rw [← hW1]; exact Rf.new _ _ _
  have c0 := r1.at_ 0 _ rfl
  have c1 := r1.at_ 1 _ rfl
  have c2 := r1.at_ 2 _ rfl
  have c3 := r1.at_ 3 _ rfl
  have h1 := h.below b1
  have hH := headFault t a c ps W1 h1 hc hn
  have hN := fun w => isNote no w
  clear r1 h1 h
  by_cases h0 : hd t ps = 0
  · rw [h0] at hH
    cases ht : inB tm 0 1000000000 with
    | false =>
      have HR : Hid (cmF t ps tm no = 3) := cmF_time h0 ht
      clear h0 hN
      rcases inB_out ht with q | q
      · clear ht
        go_enter Tryz.func48, Tryz.ntmps48
        go_wp2_with fail
        refine hH.mono ?_; rintro e w2 ⟨rfl, n, rfl⟩
        clear hH
        go_wp2
        go_ret
        exact ⟨below_drewN' b1' _, .inr ⟨hf, wc_fault HR.out.symm⟩⟩
      · have q2 : ¬ tm < 0 := by omega
        clear ht
        go_enter Tryz.func48, Tryz.ntmps48
        go_wp2_with fail
        refine hH.mono ?_; rintro e w2 ⟨rfl, n, rfl⟩
        clear hH
        go_wp2
        go_ret
        exact ⟨below_drewN' b1' _, .inr ⟨hf, wc_fault HR.out.symm⟩⟩
    | true =>
      obtain ⟨q1, q2⟩ := inB_lo ht
      have q3 : ¬ tm < 0 := by omega
      have q4 : ¬ 1000000000 < tm := by omega
      cases hno : nt no with
      | true => exact absurd (cmF_ok h0 ht hno) hf
      | false =>
        have HR : Hid (cmF t ps tm no = 5) := cmF_note h0 ht hno
        rw [hno] at hN
        clear ht h0 hno
        go_enter Tryz.func48, Tryz.ntmps48
        go_wp2_with fail
        refine hH.mono ?_; rintro e w2 ⟨rfl, n, rfl⟩
        clear hH
        go_wp2_with fail
        refine (hN _).mono ?_; rintro e w3 ⟨rfl, rfl⟩
        go_wp2
        go_ret
        exact ⟨below_drewN' b1' _, .inr ⟨hf, wc_fault HR.out.symm⟩⟩
  · have HR : Hid (cmF t ps tm no = hd t ps) := cmF_head h0
    obtain ⟨X, hX⟩ : ∃ X, hd t ps = X := ⟨_, rfl⟩
    rw [hX] at hH HR h0
    have qX : (X != 0) = true := ne_beq h0
    clear hX hN h0
    go_enter Tryz.func48, Tryz.ntmps48
    go_wp2_with fail
    refine hH.mono ?_; rintro e w2 ⟨rfl, n, rfl⟩
    clear hH
    go_wp2
    go_ret
    exact ⟨below_drewN' b1' _, .inr ⟨hf, wc_fault HR.out.symm⟩⟩
end Go.Proofs.YtijphomojljckaaGreatDoor
/- The contract of the program's writeCommit where nothing is at fault. No statement is proved here. -/
namespace Go.Proofs.YtijphomojljckaaGreatDoor
open Go.ChangeShapes Go.WideShapes Go.ChangeAt Go.RowKit

theorem ss2 (w : World) (x y : ByteArray) (hx : x.size ≤ 1048576) (hy : y.size ≤ 1048576) : SS (w.alloc (.cells #[.string x, .string y] 9)) (some ⟨w.heap.size, 0, none⟩) [x, y] := by
  refine ⟨?_, ?_⟩
  · intro k hk
    match k, hk with
    | 0, _ => show x.size ≤ _; omega
    | 1, _ => show y.size ≤ _; omega
  · intro k hk
    refine ⟨w.heap.size, 0, rfl, by simp, ?_⟩
    match k, hk with
    | 0, _ => exact Rs.new w #[.string x, .string y] _ 0 _ rfl
    | 1, _ => exact Rs.new w #[.string x, .string y] _ 1 _ rfl
/-- A line of two words is written. -/
theorem words2 (B b : Nat) (l : List UInt8) (x y : ByteArray) (w : World) (hT : TG B b l w) (hB : B ≤ w.heap.size) (hx : x.size ≤ 100) (hy : y.size ≤ 100) (hl : l.length ≤ 1000000) :
    Calls Tryz.prog 73 #[.pointer (some ⟨b, 0, none⟩), .slice (some ⟨w.heap.size, 0, none⟩) 2 2] (w.alloc (.cells #[.string x, .string y] 9)) fun e w' => e = .returned (.tuple #[]) ∧ TG B b (l ++ wl [x, y]) w' ∧ Kb B b w w' := by
  have hW := writeWordsG B b w.heap.size 0 2 l [x, y] (w.alloc (.cells #[.string x, .string y] 9)) (hT.below (allocBelow _ _)) (by have := (allocBelow w (.cells #[.string x, .string y] 9)).size; omega) (ss2 w x y (by omega) (by omega)) (by simp) (by simp) (by simp) (by simp [tot]; omega) (by omega)
  refine hW.mono ?_
  rintro e w' ⟨rfl, T, K⟩
  exact ⟨rfl, T, (Kb.of ((allocBelow w _).mono hB)).trans K⟩
theorem Kb.cell {B b k o : Nat} {w w' : World} {v : Value} (h : Kb B b w w') (hk : k < B) (hb : ¬ k = b) (hc : w.cell? ⟨k, o, none⟩ = some v) : w'.cell? ⟨k, o, none⟩ = some v := by
  unfold World.cell? at hc ⊢
  simp only [h.block k hk hb]
  exact hc
theorem hd_zero {t : ByteArray} {ps : List ByteArray} (h : hd t ps = 0) : isOf 2 t = true ∧ ps.length ≤ 3 ∧ ∀ k, k < ps.length → PaOk ps k := by
  cases hb : isOf 2 t with
  | false => rw [hd_tree hb] at h; omega
  | true =>
    by_cases h3 : 3 < ps.length
    · rw [hd_many hb h3] at h; omega
    · refine ⟨rfl, by omega, fun k hk => ?_⟩
      by_cases hp : PaOk ps k
      · exact hp
      · rw [hd_bad hb h3 hk hp] at h; omega
end Go.Proofs.YtijphomojljckaaGreatDoor
/- writeCommit where nothing is at fault, walked. No statement is proved here. -/
namespace Go.Proofs.YtijphomojljckaaGreatDoor
open Go.ChangeShapes Go.WideShapes Go.ChangeAt Go.RowKit

theorem wl2_len (x y : ByteArray) : (wl [x, y]).length = x.size + y.size + 2 := by
  unfold wl jnB
  show (jl [x, y] 1 ++ [10]).length = _
  simp [jl]
  have e1 : x.data.size = x.size := rfl
  have e2 : y.data.size = y.size := rfl
  omega
theorem cmP_take (t : ByteArray) (ps : List ByteArray) (k : Nat) (h : k < ps.length) : cmP t (ps.take (k + 1)) = cmP t (ps.take k) ++ wl [wPar, ps.getD k ByteArray.empty] := by
  unfold cmP
  have e : ps.take (k + 1) = ps.take k ++ [ps.getD k ByteArray.empty] := by
    rw [getD_at ps k h]
    simp
  rw [e, List.flatMap_append, ← List.append_assoc]
  simp
theorem cmP_len {t : ByteArray} {ps : List ByteArray} (ht : t.size = 5) (hp : ∀ k, k < ps.length → (ps.getD k ByteArray.empty).size = 5) : ∀ k, k ≤ ps.length → (cmP t (ps.take k)).length = 11 + 13 * k
  | 0, _ => by
    unfold cmP
    simp [wl2_len, ht]
    rfl
  | k + 1, h => by
    rw [cmP_take t ps k (by omega), List.length_append, cmP_len ht hp k (by omega), wl2_len, hp k (by omega)]
    have : wPar.size = 6 := rfl
    omega

set_option maxRecDepth 20000 in
set_option maxHeartbeats 2000000 in
theorem writeCommit_ok (b : Nat) (t : ByteArray) (a : Option Addr) (c : Nat) (ps : List ByteArray) (tm : Int) (no : ByteArray) (w : World) (hb : w.heap[b]? = some (.cells #[.pointer none, .slice none 0 0] 97 (0, 0))) (hbw : b < w.heap.size) (h : SSB b w a ps) (hc : ps.length ≤ c) (hT : TaG w) (hgB : 6 < b)
    (h0 : hd t ps = 0) (ht : inB tm 0 1000000000 = true) (hno : nt no = true) :
    Calls Tryz.prog 48 #[.pointer (some ⟨b, 0, none⟩), .agg #[.string t, .slice a ps.length c, .int .i64 tm, .string no]] w fun e w' => e = .returned .nilIface ∧ TB b b (cmL t ps tm no) w' ∧ Below b w w' := by
  obtain ⟨W1, hW1⟩ : ∃ W, w.alloc (.cells #[.string t, .slice a ps.length c, .int .i64 tm, .string no] 34) = W := ⟨_, rfl⟩
  have b1 : Below w.heap.size w W1 := by rw [← hW1]; exact allocBelow _ _
  have b1' : Below b w W1 := b1.mono (by omega)
  have z1 : W1.heap.size = w.heap.size + 1 := by rw [← hW1]; simp
  have Z1 : Hid (W1.heap.size = w.heap.size + 1) := z1
  have r1 : Rf W1 w.heap.size [.string t, .slice a ps.length c, .int .i64 tm, .string no] := by rw [← hW1]; exact Rf.new _ _ _
  have c0 := r1.at_ 0 _ rfl
  have c1 := r1.at_ 1 _ rfl
  have c2 := r1.at_ 2 _ rfl
  have c3 := r1.at_ 3 _ rfl
  have G1 : TG (w.heap.size + 1) b [] W1 := .inl ⟨by omega, .slice none 0 0, (b1.block b hbw).trans hb, World.ownsRowF_nil _ _ _ _⟩
  have S1 : SSB b W1 a ps := h.below b1
  have TA1 : TaG W1 := hT.below b1' hgB
  obtain ⟨x1, x2, x3⟩ := hd_zero h0
  obtain ⟨q1, q2⟩ := inB_lo ht
  have q3 : ¬ tm < 0 := by omega
  have q4 : ¬ 1000000000 < tm := by omega
  have y0 := Te.isOf_size x1
  have y1 := nt_size hno
  have y2 : ∀ k, k < ps.length → (ps.getD k ByteArray.empty).size = 5 := fun k hk => Te.isOf_size (x3 k hk).1
  have hH := headFault t a c ps W1 (S1.toSS (by omega)) hc (by omega)
  have hN := fun w => isNote no w
  rw [h0] at hH
  rw [hno] at hN
  clear r1 h0 ht hno x1 x3 b1 hT hb z1
  go_enter Tryz.func48, Tryz.ntmps48
  go_wp2_with fail
  refine hH.mono ?_; rintro e w2 ⟨rfl, n, rfl⟩
  clear hH hW1
  go_wp2_with fail
  refine (hN _).mono ?_; rintro e w3 ⟨rfl, rfl⟩
  clear hN
  go_wp2_with fail
  refine (words2 (w.heap.size + 1) b [] wTree t (W1.drewN n) G1 (Nat.le_of_eq Z1.out.symm) (by decide) (by omega) (by simp)).mono ?_
  rintro e w4 ⟨rfl, T4, K4'⟩
  have K4 : Kb (w.heap.size + 1) b W1 w4 := ⟨K4'.os, K4'.tape, K4'.output, K4'.size, K4'.block⟩
  have e1 := K4.cell (by omega) (by omega) c1
  have E0 : Hid (cmP t (ps.take 0) = [] ++ wl [wTree, t]) := by
    show _ = _
    simp [cmP]
  have T4' : TG (w.heap.size + 1) b (cmP t (ps.take 0)) w4 := by rw [E0.out]; exact T4
  clear T4 K4' G1 E0
  go_wp2_with fail
  go_loopw [7, 42] (fun _p i wr => ∃ k : Nat, k ≤ ps.length ∧ i = .int .i64 k ∧ TG (w.heap.size + 1) b (cmP t (ps.take k)) wr ∧ Kb (w.heap.size + 1) b W1 wr) (fun _ i _ => ps.length - (intOf i).toNat)
  case atStart => exact ⟨0, Nat.zero_le _, rfl, T4', K4⟩
  case round =>
    clear T4' K4 e1
    obtain ⟨k, hk, rfl, Tk, Kk⟩ := hrel
    have hsz : w.heap.size + 1 ≤ wr.heap.size := by have := Kk.size; have := Z1.out; omega
    have hlen := cmP_len y0 y2 k hk
    by_cases hlt : k < ps.length
    · have qk : (k : Int) < (ps.length : Int) := by omega
      obtain ⟨g, off, e, hg, d0⟩ := S1.2 k hlt
      subst e
      have d := Kk.cell (by omega) (by omega) d0
      have yk := y2 k hlt
      have ek := cmP_take t ps k hlt
      obtain ⟨p, hp⟩ : ∃ p, ps.getD k ByteArray.empty = p := ⟨_, rfl⟩
      rw [hp] at d yk ek
      have EK : Hid (cmP t (ps.take (k + 1)) = cmP t (ps.take k) ++ wl [wPar, p]) := ek
      clear hp ek d0 S1
      go_wp2_with fail
      refine (words2 (w.heap.size + 1) b _ wPar p wr Tk hsz (by decide) (by omega) (by omega)).mono ?_
      rintro e w5 ⟨rfl, T5, K5⟩
      have T6 : TG (w.heap.size + 1) b (cmP t (ps.take (k + 1))) w5 := by rw [EK.out]; exact T5
      have K6 := Kk.trans K5
      clear T5 K5 EK Tk Kk
      go_wp2_with fail
      go_roundw
      case rel => exact ⟨k + 1, by omega, by go_num, T6, K6⟩
      case measure => first | (simp [intOf]; omega) | simp [intOf]
    · have qk : ¬ (k : Int) < (ps.length : Int) := by omega
      have ek : ps.take k = ps := List.take_of_length_le (by omega)
      rw [ek] at Tk hlen
      have e2 := Kk.cell (by omega) (by omega) c2
      have e3 := Kk.cell (by omega) (by omega) c3
      have TAk : TaG wr := TA1.below (Kk.below (by omega)) hgB
      have hFI := formatInt tm q1 q2 wr TAk
      have yi := it_size q1 q2
      clear ek S1 TA1
      go_wp2_with fail
      refine hFI.mono ?_
      rintro e w5 ⟨rfl, b5⟩
      have K5 : Kb (w.heap.size + 1) b W1 w5 := Kk.trans (Kb.of (b5.mono hsz))
      have T5 := Tk.below b5
      have s5 := b5.size
      have f3 := K5.cell (by omega) (by omega) c3
      clear hFI TAk Tk Kk b5 e2 e3
      go_wp2_with fail
      refine (words2 (w.heap.size + 1) b _ wTime (itB tm) w5 T5 (by omega) (by decide) (by omega) (by omega)).mono ?_
      rintro e w6 ⟨rfl, T6, K6'⟩
      have K6 := K5.trans K6'
      have s6 := K6'.size
      have f4 := K6.cell (by omega) (by omega) c3
      have l6 : (cmP t ps ++ wl [wTime, itB tm]).length ≤ 1000 := by
        rw [List.length_append, wl2_len]
        have : wTime.size = 4 := rfl
        omega
      clear T5 K5 K6' f3
      go_wp2_with fail
      refine (words2 (w.heap.size + 1) b _ wNote no w6 T6 (by omega) (by decide) (by omega) (by omega)).mono ?_
      rintro e w7 ⟨rfl, T7, K7⟩
      have HT : Hid (TB b b (cmL t ps tm no) w7) := TG.toB T7
      have HB : Hid (Below b w w7) := b1'.trans ((K6.trans K7).below (by omega))
      clear T6 T7 K6 K7 f4
      go_wp2
      go_ret
      exact ⟨rfl, HT.out, HB.out⟩
end Go.Proofs.YtijphomojljckaaGreatDoor
