/- What DecodeCommit answers; the contract of the specification's. No statement is proved here. -/
import Derived.Test.YtijphomojljckaaGreatDoorRows
import Derived.Test.YtijphomojljckaaGreatDoorLemQ
import Derived.Test.YtijphomojljckaaGreatDoorComQ
import Derived.Test.YtijphomojljckaaGreatDoorHkTQ
import Derived.Test.YtijphomojljckaaGreatDoorIterQ
import Derived.Test.YtijphomojljckaaGreatDoorCmTQ
import Derived.Test.YtijphomojljckaaGreatDoorDcLQ
import Derived.Test.YtijphomojljckaaGreatDoorDcVQ
import Derived.WalkKit
import Derived.ProofKit
import Derived.Below
import Derived.WalkSpells
import Derived.Deep.QuietTactic
import Derived.BigQuiet
import Derived.Test.YtijphomojljckaaGreatDoorFpSQ
namespace Go.Proofs.YtijphomojljckaaGreatDoor.Dc
open Go.ChangeShapes Go.WideShapes Go.ChangeAt Go.RowKit

/-- What DecodeCommit answers. -/
def dcC (s : ByteArray) : Int := if (dcI pI s).isSome = true then 0 else 5
def dcK (s : ByteArray) : Cm4 := (dcI pI s).getD (⟨#[]⟩, [], 0, ⟨#[]⟩)
def DC (s : ByteArray) (w : World) (e : Ending) (w' : World) : Prop := ∃ v, e = .returned (.agg #[.int .i64 (dcC s), .string (dcK s).1, v, .int .i64 (dcK s).2.2.1, .string (dcK s).2.2.2]) ∧ w'.ownsRow w.heap.size 9 1 v (dcK s).2.1.length ((dcK s).2.1.map Value.string) ∧ Below w.heap.size w w'
theorem dc_some {s : ByteArray} {c : Cm4} (h : dcI pI s = some c) : dcC s = 0 ∧ dcK s = c := by
  unfold dcC dcK
  rw [h]
  exact ⟨rfl, rfl⟩
theorem dc_none {s : ByteArray} (h : dcI pI s = none) : dcC s = 5 ∧ dcK s = (⟨#[]⟩, [], 0, ⟨#[]⟩) := by
  unfold dcC dcK
  rw [h]
  exact ⟨rfl, rfl⟩
theorem spec_yes {s : ByteArray} (h : dcS tI s) : dcI pI s = some (sCm tI (spl s.data.toList)) := dc_yes pI_dec tI_sound h
theorem spec_no {s : ByteArray} (h : ¬ dcS tI s) : dcI pI s = none := dc_no tI_dec h
theorem below5 {b : Nat} {w w' : World} (h : Below b w w') (x0 x1 x2 x3 x4 : Value) : Below b w (((((w'.setCell ⟨b, 0, none⟩ x0).setCell ⟨b, 1, none⟩ x1).setCell ⟨b, 2, none⟩ x2).setCell ⟨b, 3, none⟩ x3).setCell ⟨b, 4, none⟩ x4) :=
  setBelow (setBelow (setBelow (setBelow (setBelow h (Nat.le_refl _)) (Nat.le_refl _)) (Nat.le_refl _)) (Nat.le_refl _)) (Nat.le_refl _)
theorem own5 {b n : Nat} {w : World} {e : TypeId} {s : Nat} {v : Value} {xs : List Value} (h : w.ownsRow (b + 1) e s v n xs) (x0 x1 x2 x3 x4 : Value) : (((((w.setCell ⟨b, 0, none⟩ x0).setCell ⟨b, 1, none⟩ x1).setCell ⟨b, 2, none⟩ x2).setCell ⟨b, 3, none⟩ x3).setCell ⟨b, 4, none⟩ x4).ownsRow b e s v n xs :=
  rowDown (ownSet (ownSet (ownSet (ownSet (ownSet h (by omega)) (by omega)) (by omega)) (by omega)) (by omega)) (by omega)
theorem rf5 {b : Nat} {w : World} {vs : List Value} (h : Rf w b vs) (hl : vs.length = 5) (hb : b < w.heap.size) (x0 x1 x2 x3 x4 : Value) (o : Obj) : Rf ((((((w.setCell ⟨b, 0, none⟩ x0).setCell ⟨b, 1, none⟩ x1).setCell ⟨b, 2, none⟩ x2).setCell ⟨b, 3, none⟩ x3).setCell ⟨b, 4, none⟩ x4).alloc o) b [x0, x1, x2, x3, x4] := by
  match vs, hl with
  | [_, _, _, _, _], _ =>
    refine Rf.below ?_ (by simpa using hb) (allocBelow _ _)
    exact ((((h.set (o := 0) (by simp) x0).set (o := 1) (by simp) x1).set (o := 2) (by simp) x2).set (o := 3) (by simp) x3).set (o := 4) (by simp) x4
set_option maxRecDepth 20000 in
set_option maxHeartbeats 2000000 in
theorem specDecodeCommit (s : ByteArray) (w : World) (hs : s.size ≤ 1048576) :
    Calls Tryz.prog 12 #[.string s] w fun e w' => DC s w e w' := by
  obtain ⟨b, hb⟩ : ∃ b, w.heap.size = b := ⟨_, rfl⟩
  obtain ⟨W1, hW1⟩ : ∃ W1, w.alloc (.cells #[.int .i64 0, .string ⟨#[]⟩, .slice none 0 0, .int .i64 0, .string ⟨#[]⟩] 36) = W1 := ⟨_, rfl⟩
  have b1 : Below b w W1 := by rw [← hW1, ← hb]; exact allocBelow _ _
  have z1 : b < W1.heap.size := by rw [← hW1, ← hb]; simp
  have r1 : Rf W1 b [.int .i64 0, .string ⟨#[]⟩, .slice none 0 0, .int .i64 0, .string ⟨#[]⟩] := by rw [← hW1, ← hb]; exact Rf.new _ _ _
  have hR := fun W => l6UncommitC s W hs
  go_enter Tryz.func12, Tryz.ntmps12
  go_wp2_with fail
  refine (hR _).mono ?_
  rintro e w2 ⟨b2, he⟩
  have r2 := r1.below z1 b2
  have B2 : Below b w w2 := b1.trans (b2.mono (Nat.le_of_lt z1))
  have z2 := b2.size
  have d0 := r2.at_ 0 _ rfl
  have d1 := r2.at_ 1 _ rfl
  have d2 := r2.at_ 2 _ rfl
  have d3 := r2.at_ 3 _ rfl
  have d4 := r2.at_ 4 _ rfl
  have f0 := r2.fz 0
  have f1 := r2.fz 1
  have f2 := r2.fz 2
  have f3 := r2.fz 3
  have f4 := r2.fz 4
  have hz : b < w2.heap.size := by omega
  have HR := fun x0 x1 x2 x3 x4 o => rf5 r2 rfl hz x0 x1 x2 x3 x4 o
  clear hR r1 r2 hW1 b1
  rcases he with ⟨hy, v, rfl, hrow⟩ | ⟨hy, t, la, ln, lc, tm, no, rfl⟩
  · have HY : Hid _ := dc_some (spec_yes hy)
    obtain ⟨la, lc, rfl⟩ : ∃ a c, v = .slice a (sCm tI (spl s.data.toList)).2.1.length c := by
      rcases hrow.2 with ⟨h', h0'⟩ | ⟨g, c, cur, h', _⟩
      · exact ⟨none, 0, by rw [h', h0']⟩
      · exact ⟨_, _, h'⟩
    obtain ⟨⟨t, ps, tm, no⟩, hC⟩ : ∃ c, sCm tI (spl s.data.toList) = c := ⟨_, rfl⟩
    rw [hC] at hrow HY ⊢
    have hrow1 := rowDown hrow (show b + 1 ≤ W1.heap.size from z1)
    clear hC hy hrow
    go_wp2
    have R5 := HR (.int .i64 0) (.string t) (.slice la ps.length lc) (.int .i64 tm) (.string no) (.cells #[.string t, .slice la ps.length lc, .int .i64 tm, .string no] 34)
    have g0 := R5.at_ 0 _ rfl
    have g1 := R5.at_ 1 _ rfl
    have g2 := R5.at_ 2 _ rfl
    have g3 := R5.at_ 3 _ rfl
    have g4 := R5.at_ 4 _ rfl
    refine bodyPost_ret (v := .agg #[.int .i64 0, .string t, .slice la ps.length lc, .int .i64 tm, .string no]) (by simp [results, Tryz.results12, go_sem, g0, g1, g2, g3, g4]) rfl ?_
    unfold DC
    rw [HY.out.1, HY.out.2, hb]
    exact ⟨_, rfl, (own5 hrow1 _ _ _ _ _).alloc _, (below5 B2 _ _ _ _ _).alloc (by simpa using Nat.le_of_lt hz) _⟩
  · have HY : Hid _ := dc_none (spec_no hy)
    clear hy
    go_wp2
    have R5 := HR (.int .i64 5) (.string ⟨#[]⟩) (.slice none 0 0) (.int .i64 0) (.string ⟨#[]⟩) (.cells #[.string t, .slice la ln lc, .int .i64 tm, .string no] 34)
    have g0 := R5.at_ 0 _ rfl
    have g1 := R5.at_ 1 _ rfl
    have g2 := R5.at_ 2 _ rfl
    have g3 := R5.at_ 3 _ rfl
    have g4 := R5.at_ 4 _ rfl
    refine bodyPost_ret (v := .agg #[.int .i64 5, .string ⟨#[]⟩, .slice none 0 0, .int .i64 0, .string ⟨#[]⟩]) (by simp [results, Tryz.results12, go_sem, g0, g1, g2, g3, g4]) rfl ?_
    unfold DC
    rw [HY.out.1, HY.out.2, hb]
    exact ⟨_, rfl, World.ownsRow_nil _ _ _ _, (below5 B2 _ _ _ _ _).alloc (by simpa using Nat.le_of_lt hz) _⟩
theorem isOf_size {k : Int} {id : ByteArray} (h : isOf k id = true) : id.size = 5 := by
  by_cases q : id.data.toList.length = 5
  · rw [size_eq] at q; exact q
  · rw [isOf_no (idB_len q)] at h; cases h
theorem dcK_ok (s : ByteArray) : (dcK s).2.1.length ≤ 3 ∧ ∀ k, k < (dcK s).2.1.length → ((dcK s).2.1.getD k ByteArray.empty).size ≤ 9223372036854775807 := by
  cases e : dcI pI s with
  | none => rw [(dc_none e).2]; exact ⟨by simp, fun k hk => by simp at hk⟩
  | some c =>
    rw [(dc_some e).2]
    obtain ⟨h0, _⟩ := dcI_some e
    obtain ⟨k0, _, _⟩ := cmF_zero h0
    obtain ⟨_, x2, x3⟩ := hd_zero k0
    refine ⟨by omega, fun k hk => ?_⟩
    have := (x3 k hk).1
    have := isOf_size this
    omega
theorem dcK_len (d : ByteArray) (_ : d.size ≤ 1048576) : (dcK d).2.1.length ≤ 1048576 := Nat.le_trans (dcK_ok d).1 (by decide)
theorem dcK_sizes (d : ByteArray) (_ : d.size ≤ 1048576) : ∀ k, k < (dcK d).2.1.length → ((dcK d).2.1.getD k ByteArray.empty).size ≤ 9223372036854775807 := (dcK_ok d).2
end Go.Proofs.YtijphomojljckaaGreatDoor.Dc
/- The contract of the program's wantText, at a commit. No statement is proved here. -/
namespace Go.Proofs.YtijphomojljckaaGreatDoor.Dc
open Go.ChangeShapes Go.WideShapes Go.ChangeAt Go.RowKit

/-- The program's errOtherForm: some error. -/
def OfG (w : World) : Prop := ∃ (T : TypeId) (u : Value), w.cell? ⟨1, 0, none⟩ = some (.iface T u)
theorem OfG.below {B : Nat} {w w' : World} (h : OfG w) (hb : Below B w w') (hB : 1 < B) : OfG w' := by
  obtain ⟨T, u, h⟩ := h
  exact ⟨T, u, (hb.cell (p := ⟨1, 0, none⟩) hB).trans h⟩
/-- What wantText answers. -/
def WT2 (t : ByteArray) (ps : List ByteArray) (tm : Int) (no d : ByteArray) (e : Ending) : Prop :=
  ((cmF t ps tm no = 0 ∧ cmB t ps tm no = d) ∧ e = .returned .nilIface) ∨ (¬ (cmF t ps tm no = 0 ∧ cmB t ps tm no = d) ∧ ∃ T u, e = .returned (.iface 80 (.agg #[.iface T u])))
set_option maxRecDepth 20000 in
set_option maxHeartbeats 1000000 in
theorem wantTextC (t : ByteArray) (a : Option Addr) (c : Nat) (ps : List ByteArray) (tm : Int) (no d : ByteArray) (w : World) (h : SS w a ps) (hc : ps.length ≤ c) (hn : ps.length ≤ 1048576) (hTa : TaG w) (hgB : 6 < w.heap.size) (ho : OfG w) (hoB : 1 < w.heap.size) :
    Calls Tryz.prog 45 #[.iface 60 (.agg #[.string t, .slice a ps.length c, .int .i64 tm, .string no]), .string d] w fun e w' => WT2 t ps tm no d e ∧ Below w.heap.size w w' := by
  have hE := encodeCommit t a c ps tm no w h hc hn hTa hgB
  have w1 : cmF t ps tm no = 0 → cmB t ps tm no = d → Hid (WT2 t ps tm no d (.returned .nilIface)) := fun a b => .inl ⟨⟨a, b⟩, rfl⟩
  have w2 : ¬ (cmF t ps tm no = 0 ∧ cmB t ps tm no = d) → ∀ T u, Hid (WT2 t ps tm no d (.returned (.iface 80 (.agg #[.iface T u])))) := fun a T u => .inr ⟨a, T, u, rfl⟩
  go_enter Tryz.func45, Tryz.ntmps45
  go_wp2_with fail
  refine hE.mono ?_
  rintro e w2' ⟨b2, he⟩
  obtain ⟨T0, u0, c0⟩ := ho.below b2 hoB
  rcases he with ⟨h0, rfl⟩ | ⟨h0, rfl⟩
  · by_cases hd : cmB t ps tm no = d
    · have W1 := w1 h0 hd
      have q := beq_bytes_true hd
      obtain ⟨T, hT⟩ : ∃ T, cmB t ps tm no = T := ⟨_, rfl⟩
      rw [hT] at q ⊢
      clear w1 w2 hE h0 hd hT c0
      go_wp2
      go_ret
      exact ⟨W1.out, b2⟩
    · have W2 := w2 (fun k => hd k.2) T0 u0
      have q := beq_bytes_false hd
      obtain ⟨T, hT⟩ : ∃ T, cmB t ps tm no = T := ⟨_, rfl⟩
      rw [hT] at q ⊢
      clear w1 w2 hE h0 hd hT
      go_wp2
      go_ret
      exact ⟨W2.out, b2⟩
  · have W2 := w2 (fun k => h0 k.1)
    clear w1 w2 hE c0
    go_wp2
    go_ret
    exact ⟨(W2 _ _).out, b2⟩
end Go.Proofs.YtijphomojljckaaGreatDoor.Dc
