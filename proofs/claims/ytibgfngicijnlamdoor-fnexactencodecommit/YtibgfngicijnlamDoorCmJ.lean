/- The contracts of EncodeCommit (the program's and the specification's). No statement is proved here. -/
import Derived.Test.YtibgfngicijnlamDoorRows
import Derived.Test.YtibgfngicijnlamDoorLem
import Derived.Test.YtibgfngicijnlamDoorStrs
import Derived.Test.YtibgfngicijnlamDoorDTab
import Derived.Test.YtibgfngicijnlamDoorOwn
import Derived.Test.YtibgfngicijnlamDoorFr
import Derived.Test.YtibgfngicijnlamDoorIn
import Derived.Test.YtibgfngicijnlamDoorHkT
import Derived.Test.YtibgfngicijnlamDoorTgC
import Derived.Test.YtibgfngicijnlamDoorCdC
import Derived.Test.YtibgfngicijnlamDoorHdC
import Derived.Test.YtibgfngicijnlamDoorNtC
import Derived.Test.YtibgfngicijnlamDoorCfS
import Derived.Test.YtibgfngicijnlamDoorFiC
import Derived.Test.YtibgfngicijnlamDoorFpS
import Derived.Test.YtibgfngicijnlamDoorBldF
import Derived.Test.YtibgfngicijnlamDoorWwC
import Derived.Test.YtibgfngicijnlamDoorWcC
import Derived.Test.YtibgfngicijnlamDoorWcD
import Derived.Test.YtibgfngicijnlamDoorWcE
import Derived.Test.YtibgfngicijnlamDoorCmT
import Derived.Test.YtibgfngicijnlamDoorCmE
import Derived.WalkKit
import Derived.ProofKit
import Derived.Below
import Derived.WalkSpells
import Derived.Laws.Concat
import Derived.Deep.RegionWith
namespace Go.Proofs.YtibgfngicijnlamDoor.Cm
open Go.ChangeShapes Go.WideShapes Go.ChangeAt Go.RowKit

/-- The text that EncodeCommit answers. -/
def ecT (t : ByteArray) (ps : List ByteArray) (tm : Int) (no : ByteArray) : ByteArray := if cmF t ps tm no = 0 then cmB t ps tm no else ⟨#[]⟩
theorem ecT_ok {t : ByteArray} {ps : List ByteArray} {tm : Int} {no : ByteArray} (h : cmF t ps tm no = 0) : ecT t ps tm no = cmB t ps tm no := if_pos h
theorem ecT_no {t : ByteArray} {ps : List ByteArray} {tm : Int} {no : ByteArray} (h : ¬ cmF t ps tm no = 0) : ecT t ps tm no = ⟨#[]⟩ := if_neg h
theorem ec_ret {c d : Int} {s t : ByteArray} (h : c = d) (k : s = t) : Ending.returned (.agg #[.int .i64 c, .string s]) = .returned (.agg #[.int .i64 d, .string t]) := by rw [h, k]
theorem str_ret {s t : ByteArray} (k : s = t) : Ending.returned (.string s) = .returned (.string t) := by rw [k]
theorem below2 {B b : Nat} {w W : World} (h : Below B w W) (hb : B ≤ b) (u v : Value) : Below B w ((W.setCell ⟨b, 0, none⟩ u).setCell ⟨b, 1, none⟩ v) := below_sets h hb u v

set_option maxRecDepth 20000 in
set_option maxHeartbeats 2000000 in
theorem implEncodeCommit (t : ByteArray) (a : Option Addr) (c : Nat) (ps : List ByteArray) (tm : Int) (no : ByteArray) (w : World) (h : SS w a ps) (hc : ps.length ≤ c) (hn : ps.length ≤ 1048576) (hTa : TaG w) (hgB : 5 < w.heap.size) (hE : ErrG w) :
    Calls Tryd.prog 9 #[.agg #[.string t, .slice a ps.length c, .int .i64 tm, .string no]] w fun e w' => e = .returned (.agg #[.int .i64 (cmF t ps tm no), .string (ecT t ps tm no)]) ∧ Below w.heap.size w w' := by
  obtain ⟨W0, hW0⟩ : ∃ W, w.alloc (.cells #[.string t, .slice a ps.length c, .int .i64 tm, .string no] 29) = W := ⟨_, rfl⟩
  have b0 : Below w.heap.size w W0 := by rw [← hW0]; exact allocBelow _ _
  have z0 : W0.heap.size = w.heap.size + 1 := by rw [← hW0]; simp
  have r0 : Rf W0 w.heap.size [.string t, .slice a ps.length c, .int .i64 tm, .string no] := by rw [← hW0]; exact Rf.new _ _ _
  obtain ⟨W1, hW1⟩ : ∃ W, W0.alloc (.cells #[.int .i64 0, .string ⟨#[]⟩] 27) = W := ⟨_, rfl⟩
  have b1 : Below W0.heap.size W0 W1 := by rw [← hW1]; exact allocBelow _ _
  have r1 : Res2 W1 (w.heap.size + 1) (.int .i64 0) (.string ⟨#[]⟩) := by rw [← z0, ← hW1]; exact Res2.new _ _ _ _
  have zz : w.heap.size + 1 < W1.heap.size := by rw [← z0, ← hW1]; simp
  have B1 : Below w.heap.size w W1 := b0.trans (b1.mono b0.size)
  have q0 := r0.below (by omega) b1
  have c0 := q0.at_ 0 _ rfl
  have c1 := q0.at_ 1 _ rfl
  have c2 := q0.at_ 2 _ rfl
  have c3 := q0.at_ 3 _ rfl
  have hC := encodeCommit t a c ps tm no W1 (h.below B1) hc hn (hTa.below B1 hgB) (by omega)
  clear r0 q0
  go_enter Tryd.func9, Tryd.ntmps9
  go_wp2_with fail
  refine hC.mono ?_
  rintro e w2 ⟨b2, he⟩
  have B2 : Below w.heap.size w w2 := B1.trans (b2.mono B1.size)
  have r2 := r1.below (by omega) b2
  have z2 := b2.size
  have hE2 := hE.below B2
  clear hC hW1 r1 b1 B1 c0 c1 c2 c3 hW0 b0
  rcases he with ⟨h0, rfl⟩ | ⟨h0, rfl⟩
  · have H0 : Hid (cmF t ps tm no = 0) := h0
    have H1 : Hid (ecT t ps tm no = cmB t ps tm no) := ecT_ok h0
    have hD := codeOf_nil w2
    clear h0
    obtain ⟨T, hT⟩ : ∃ T, cmB t ps tm no = T := ⟨_, rfl⟩
    rw [hT] at H1 ⊢
    clear hT
    go_wp2_with fail
    refine hD.mono ?_
    rintro e w3 ⟨rfl, b3⟩
    have r3 := r2.below (by omega) b3
    have d0 := r3.c0
    have d1 := r3.c1
    have f0 := r3.f0
    have f1 := r3.f1
    have B3 := B2.trans (b3.mono B2.size)
    have HB : Hid (Below w.heap.size w ((w3.setCell ⟨w.heap.size + 1, 0, none⟩ (.int .i64 0)).setCell ⟨w.heap.size + 1, 1, none⟩ (.string T))) := below2 B3 (by omega) _ _
    clear hD r2 r3 b3 b2 B2 B3 z0
    go_wp2
    refine bodyPost_ret (v := .agg #[.int .i64 0, .string T]) (by simp [results, Tryd.results9, go_sem, d0, d1]) rfl ?_
    exact ⟨ec_ret H0.out.symm H1.out.symm, HB.out⟩
  · have H1 : Hid (ecT t ps tm no = ⟨#[]⟩) := ecT_no h0
    obtain ⟨X, hX⟩ : ∃ X, cmF t ps tm no = X := ⟨_, rfl⟩
    have hD := codeOf_code X w2 hE2
    have H0 : Hid (cmF t ps tm no = X) := hX
    rw [hX]
    clear h0 hX
    go_wp2_with fail
    refine hD.mono ?_
    rintro e w3 ⟨rfl, b3⟩
    have r3 := r2.below (by omega) b3
    have d0 := r3.c0
    have d1 := r3.c1
    have f0 := r3.f0
    have f1 := r3.f1
    have B3 := B2.trans (b3.mono B2.size)
    have HB : Hid (Below w.heap.size w ((w3.setCell ⟨w.heap.size + 1, 0, none⟩ (.int .i64 X)).setCell ⟨w.heap.size + 1, 1, none⟩ (.string ⟨#[]⟩))) := below2 B3 (by omega) _ _
    clear hD r2 r3 b3 b2 B2 B3 z0
    go_wp2
    refine bodyPost_ret (v := .agg #[.int .i64 X, .string ⟨#[]⟩]) (by simp [results, Tryd.results9, go_sem, d0, d1]) rfl ?_
    exact ⟨ec_ret H0.out.symm H1.out.symm, HB.out⟩

/-- The text of a commit up to its parent k. -/
def cmQ (t : ByteArray) (ps : List ByteArray) (k : Nat) : ByteArray := ⟨(cmP t (ps.take k)).toArray⟩
theorem cmQ_zero (t : ByteArray) (ps : List ByteArray) : cmQ t ps 0 = (⟨#[116, 114, 101, 101, 32]⟩ ++ t) ++ ⟨#[10]⟩ := by
  apply WideShapes.bytes_inj
  simp [cmQ, cmP, wl2, wTree, ByteArray.data_append]
theorem cmQ_succ (t : ByteArray) (ps : List ByteArray) (k : Nat) (h : k < ps.length) : cmQ t ps (k + 1) = ((cmQ t ps k ++ ⟨#[112, 97, 114, 101, 110, 116, 32]⟩) ++ ps.getD k ByteArray.empty) ++ ⟨#[10]⟩ := by
  have e : ps.take (k + 1) = ps.take k ++ [ps.getD k ByteArray.empty] := by
    rw [List.take_succ_eq_append_getElem h]; simp [List.getD, h]
  apply WideShapes.bytes_inj
  simp [cmQ, cmP, e, wl2, wPar, ByteArray.data_append]
theorem itB_dec {tm : Int} (h : 0 ≤ tm) : itB tm = decB tm.toNat := by
  obtain ⟨n, rfl⟩ := Int.eq_ofNat_of_zero_le h
  rfl
theorem cmB_all {t : ByteArray} {ps : List ByteArray} {tm : Int} {no : ByteArray} (h : 0 ≤ tm) : cmB t ps tm no = ((((cmQ t ps ps.length ++ ⟨#[116, 105, 109, 101, 32]⟩) ++ decB tm.toNat) ++ ⟨#[10, 110, 111, 116, 101, 32]⟩) ++ no) ++ ⟨#[10]⟩ := by
  rw [← itB_dec h]
  apply WideShapes.bytes_inj
  simp [cmB, cmL, cmQ, wl2, wTime, wNote, ByteArray.data_append, List.take_length]
theorem cmQ_size (t : ByteArray) (ps : List ByteArray) (ht : t.size ≤ 5) (h3 : ps.length ≤ 3) (hp : ∀ k, k < ps.length → (ps.getD k ByteArray.empty).size ≤ 5) : ∀ k, k ≤ ps.length → (cmQ t ps k).size ≤ 11 + 13 * k
  | 0, _ => by rw [cmQ_zero]; simp only [ByteArray.size_append]; have e1 : (⟨#[116, 114, 101, 101, 32]⟩ : ByteArray).size = 5 := rfl; have e2 : (⟨#[10]⟩ : ByteArray).size = 1 := rfl; omega
  | k + 1, hk => by
    have ih := cmQ_size t ps ht h3 hp k (by omega)
    have := hp k (by omega)
    rw [cmQ_succ t ps k (by omega)]
    simp only [ByteArray.size_append]
    have e1 : (⟨#[112, 97, 114, 101, 110, 116, 32]⟩ : ByteArray).size = 7 := rfl
    have e2 : (⟨#[10]⟩ : ByteArray).size = 1 := rfl
    omega
end Go.Proofs.YtibgfngicijnlamDoor.Cm
