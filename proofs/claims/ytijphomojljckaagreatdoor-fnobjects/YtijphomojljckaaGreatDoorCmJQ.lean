/- The contracts of EncodeCommit (the program's and the specification's). No statement is proved here. -/
import Derived.Test.YtijphomojljckaaGreatDoorRows
import Derived.Test.YtijphomojljckaaGreatDoorLemQ
import Derived.Test.YtijphomojljckaaGreatDoorComQ
import Derived.Test.YtijphomojljckaaGreatDoorInQ
import Derived.Test.YtijphomojljckaaGreatDoorHkTQ
import Derived.Test.YtijphomojljckaaGreatDoorIdLQ
import Derived.Test.YtijphomojljckaaGreatDoorAsCQ
import Derived.Test.YtijphomojljckaaGreatDoorNtCQ
import Derived.Test.YtijphomojljckaaGreatDoorCfSQ
import Derived.Test.YtijphomojljckaaGreatDoorFpSQ
import Derived.Test.YtijphomojljckaaGreatDoorJnCQ
import Derived.Test.YtijphomojljckaaGreatDoorWcCQ
import Derived.Test.YtijphomojljckaaGreatDoorCmTQ
import Derived.WalkKit
import Derived.ProofKit
import Derived.Below
import Derived.WalkSpells
import Derived.Laws.Concat
import Derived.Deep.RegionWith
namespace Go.Proofs.YtijphomojljckaaGreatDoor.Cm
open Go.ChangeShapes Go.WideShapes Go.ChangeAt Go.RowKit

/-- The text that EncodeCommit answers. -/
def ecT (t : ByteArray) (ps : List ByteArray) (tm : Int) (no : ByteArray) : ByteArray := if cmF t ps tm no = 0 then cmB t ps tm no else ⟨#[]⟩
theorem ecT_ok {t : ByteArray} {ps : List ByteArray} {tm : Int} {no : ByteArray} (h : cmF t ps tm no = 0) : ecT t ps tm no = cmB t ps tm no := if_pos h
theorem ecT_no {t : ByteArray} {ps : List ByteArray} {tm : Int} {no : ByteArray} (h : ¬ cmF t ps tm no = 0) : ecT t ps tm no = ⟨#[]⟩ := if_neg h
theorem ec_ret {c d : Int} {s t : ByteArray} (h : c = d) (k : s = t) : Ending.returned (.agg #[.int .i64 c, .string s]) = .returned (.agg #[.int .i64 d, .string t]) := by rw [h, k]
theorem str_ret {s t : ByteArray} (k : s = t) : Ending.returned (.string s) = .returned (.string t) := by rw [k]
theorem below2 {B b : Nat} {w W : World} (h : Below B w W) (hb : B ≤ b) (u v : Value) : Below B w ((W.setCell ⟨b, 0, none⟩ u).setCell ⟨b, 1, none⟩ v) := below_sets h hb u v

set_option maxRecDepth 20000 in
set_option maxHeartbeats 2000000 in
theorem implEncodeCommit (t : ByteArray) (a : Option Addr) (c : Nat) (ps : List ByteArray) (tm : Int) (no : ByteArray) (w : World) (h : SS w a ps) (hc : ps.length ≤ c) (hn : ps.length ≤ 1048576) (hTa : TaG w) (hgB : 6 < w.heap.size) (hE : ErrG w) :
    Calls Tryz.prog 11 #[.agg #[.string t, .slice a ps.length c, .int .i64 tm, .string no]] w fun e w' => e = .returned (.agg #[.int .i64 (cmF t ps tm no), .string (ecT t ps tm no)]) ∧ Below w.heap.size w w' := by
  obtain ⟨W0, hW0⟩ : ∃ W, w.alloc (.cells #[.string t, .slice a ps.length c, .int .i64 tm, .string no] 34) = W := ⟨_, rfl⟩
  have b0 : Below w.heap.size w W0 := by rw [← hW0]; exact allocBelow _ _
  have z0 : W0.heap.size = w.heap.size + 1 := by rw [← hW0]; simp
  have r0 : Rf W0 w.heap.size [.string t, .slice a ps.length c, .int .i64 tm, .string no] := by rw [← hW0]; exact Rf.new _ _ _
  obtain ⟨W1, hW1⟩ : ∃ W, W0.alloc (.cells #[.int .i64 0, .string ⟨#[]⟩] 30) = W := ⟨_, rfl⟩
  have b1 : Below W0.heap.size W0 W1 := by rw [← hW1]; exact allocBelow _ _
  have r1 : Res2 W1 (w.heap.size + 1) (.int .i64 0) (.string ⟨#[]⟩) := by rw [← z0, ← hW1]; exact Res2.new _ _ _ _
  have zz : w.heap.size + 1 < W1.heap.size := by rw [← z0, ← hW1]; simp
  have B1 : Below w.heap.size w W1 := b0.trans (b1.mono b0.size)
  have q0 := r0.below (by omega) b1
  have c0 := q0.at_ 0 _ rfl
  have c1 := q0.at_ 1 _ rfl
  have c2 := q0.at_ 2 _ rfl
  have c3 := q0.at_ 3 _ rfl
  have hC := encodeCommit t a c ps tm no W1 (h.below B1) hc hn (hTa.below B1 hgB) (by omega)
  clear r0 q0
  go_enter Tryz.func11, Tryz.ntmps11
  go_wp2_with fail
  refine hC.mono ?_
  rintro e w2 ⟨b2, he⟩
  have B2 : Below w.heap.size w w2 := B1.trans (b2.mono B1.size)
  have r2 := r1.below (by omega) b2
  have z2 := b2.size
  have hE2 := hE.below B2
  clear hC hW1 r1 b1 B1 c0 c1 c2 c3 hW0 b0
  rcases he with ⟨h0, rfl⟩ | ⟨h0, rfl⟩
  · have H0 : Hid (cmF t ps tm no = 0) := h0
    have H1 : Hid (ecT t ps tm no = cmB t ps tm no) := ecT_ok h0
    have hD := codeOf_nil w2
    clear h0
    obtain ⟨T, hT⟩ : ∃ T, cmB t ps tm no = T := ⟨_, rfl⟩
    rw [hT] at H1 ⊢
    clear hT
    go_wp2_with fail
    refine hD.mono ?_
    rintro e w3 ⟨rfl, b3⟩
    have r3 := r2.below (by omega) b3
    have d0 := r3.c0
    have d1 := r3.c1
    have f0 := r3.f0
    have f1 := r3.f1
    have B3 := B2.trans (b3.mono B2.size)
    have HB : Hid (Below w.heap.size w ((w3.setCell ⟨w.heap.size + 1, 0, none⟩ (.int .i64 0)).setCell ⟨w.heap.size + 1, 1, none⟩ (.string T))) := below2 B3 (by omega) _ _
    clear hD r2 r3 b3 b2 B2 B3 z0
    go_wp2
    refine bodyPost_ret (v := .agg #[.int .i64 0, .string T]) (by simp [results, Tryz.results11, go_sem, d0, d1]) rfl ?_
    exact ⟨ec_ret H0.out.symm H1.out.symm, HB.out⟩
  · have H1 : Hid (ecT t ps tm no = ⟨#[]⟩) := ecT_no h0
    obtain ⟨X, hX⟩ : ∃ X, cmF t ps tm no = X := ⟨_, rfl⟩
    have hD := codeOf_code X w2 hE2
    have H0 : Hid (cmF t ps tm no = X) := hX
    rw [hX]
    clear h0 hX
    go_wp2_with fail
    refine hD.mono ?_
    rintro e w3 ⟨rfl, b3⟩
    have r3 := r2.below (by omega) b3
    have d0 := r3.c0
    have d1 := r3.c1
    have f0 := r3.f0
    have f1 := r3.f1
    have B3 := B2.trans (b3.mono B2.size)
    have HB : Hid (Below w.heap.size w ((w3.setCell ⟨w.heap.size + 1, 0, none⟩ (.int .i64 X)).setCell ⟨w.heap.size + 1, 1, none⟩ (.string ⟨#[]⟩))) := below2 B3 (by omega) _ _
    clear hD r2 r3 b3 b2 B2 B3 z0
    go_wp2
    refine bodyPost_ret (v := .agg #[.int .i64 X, .string ⟨#[]⟩]) (by simp [results, Tryz.results11, go_sem, d0, d1]) rfl ?_
    exact ⟨ec_ret H0.out.symm H1.out.symm, HB.out⟩

/-- The text of a commit up to its parent k. -/
def cmQ (t : ByteArray) (ps : List ByteArray) (k : Nat) : ByteArray := ⟨(cmP t (ps.take k)).toArray⟩
theorem cmQ_zero (t : ByteArray) (ps : List ByteArray) : cmQ t ps 0 = (⟨#[116, 114, 101, 101, 32]⟩ ++ t) ++ ⟨#[10]⟩ := by
  apply WideShapes.bytes_inj
  simp [cmQ, cmP, wl2, wTree, ByteArray.data_append]
theorem cmQ_succ (t : ByteArray) (ps : List ByteArray) (k : Nat) (h : k < ps.length) : cmQ t ps (k + 1) = ((cmQ t ps k ++ ⟨#[112, 97, 114, 101, 110, 116, 32]⟩) ++ ps.getD k ByteArray.empty) ++ ⟨#[10]⟩ := by
  have e : ps.take (k + 1) = ps.take k ++ [ps.getD k ByteArray.empty] := by
    rw [List.take_succ_eq_append_getElem h]; simp [List.getD, h]
  apply WideShapes.bytes_inj
  simp [cmQ, cmP, e, wl2, wPar, ByteArray.data_append]
theorem itB_dec {tm : Int} (h : 0 ≤ tm) : itB tm = decB tm.toNat := by
  obtain ⟨n, rfl⟩ := Int.eq_ofNat_of_zero_le h
  rfl
theorem cmB_all {t : ByteArray} {ps : List ByteArray} {tm : Int} {no : ByteArray} (h : 0 ≤ tm) : cmB t ps tm no = ((((cmQ t ps ps.length ++ ⟨#[116, 105, 109, 101, 32]⟩) ++ decB tm.toNat) ++ ⟨#[10, 110, 111, 116, 101, 32]⟩) ++ no) ++ ⟨#[10]⟩ := by
  rw [← itB_dec h]
  apply WideShapes.bytes_inj
  simp [cmB, cmL, cmQ, wl2, wTime, wNote, ByteArray.data_append, List.take_length]
theorem cmQ_size (t : ByteArray) (ps : List ByteArray) (ht : t.size ≤ 5) (h3 : ps.length ≤ 3) (hp : ∀ k, k < ps.length → (ps.getD k ByteArray.empty).size ≤ 5) : ∀ k, k ≤ ps.length → (cmQ t ps k).size ≤ 11 + 13 * k
  | 0, _ => by rw [cmQ_zero]; simp only [ByteArray.size_append]; have e1 : (⟨#[116, 114, 101, 101, 32]⟩ : ByteArray).size = 5 := rfl; have e2 : (⟨#[10]⟩ : ByteArray).size = 1 := rfl; omega
  | k + 1, hk => by
    have ih := cmQ_size t ps ht h3 hp k (by omega)
    have := hp k (by omega)
    rw [cmQ_succ t ps k (by omega)]
    simp only [ByteArray.size_append]
    have e1 : (⟨#[112, 97, 114, 101, 110, 116, 32]⟩ : ByteArray).size = 7 := rfl
    have e2 : (⟨#[10]⟩ : ByteArray).size = 1 := rfl
    omega
end Go.Proofs.YtijphomojljckaaGreatDoor.Cm
/- The contracts of l6Commit and the specification's EncodeCommit. No statement is proved here. -/
namespace Go.Proofs.YtijphomojljckaaGreatDoor.Cm
open Go.ChangeShapes Go.WideShapes Go.ChangeAt Go.RowKit

set_option maxRecDepth 20000 in
set_option maxHeartbeats 2000000 in
theorem l6Commit (t : ByteArray) (a : Option Addr) (c : Nat) (ps : List ByteArray) (tm : Int) (no : ByteArray) (w : World) (h : SS w a ps) (ht : t.size ≤ 5) (h3 : ps.length ≤ 3) (hp : ∀ k, k < ps.length → (ps.getD k ByteArray.empty).size ≤ 5) (ht0 : 0 ≤ tm) (ht1 : tm ≤ 1000000000) (hno : no.size ≤ 60) :
    Calls Tryz.prog 54 #[.agg #[.string t, .slice a ps.length c, .int .i64 tm, .string no]] w fun e w' => e = .returned (.string (cmB t ps tm no)) ∧ Below w.heap.size w w' := by
  obtain ⟨n, hn⟩ := Int.eq_ofNat_of_zero_le ht0
  have hn9 : n ≤ 1000000000 := by omega
  have hFin : Hid (cmB t ps tm no = ((((cmQ t ps ps.length ++ ⟨#[116, 105, 109, 101, 32]⟩) ++ decB n) ++ ⟨#[10, 110, 111, 116, 101, 32]⟩) ++ no) ++ ⟨#[10]⟩) := by
    show _ = _
    rw [cmB_all ht0, hn]; rfl
  have hds : (decB n).size ≤ 10 := by
    have := it_size ht0 ht1
    rw [itB_dec ht0, hn] at this
    exact this
  have hDg := fun w => l3Digits n n (Nat.le_refl _) hn9 w
  subst hn
  obtain ⟨D, hD⟩ : ∃ D, decB n = D := ⟨_, rfl⟩
  rw [hD] at hFin hds hDg
  clear hD
  have hq0 : Hid (cmQ t ps 0 = (⟨#[116, 114, 101, 101, 32]⟩ ++ t) ++ ⟨#[10]⟩) := cmQ_zero t ps
  have hqs := cmQ_size t ps ht h3 hp
  have hqt := fun k (hk : k < ps.length) => cmQ_succ t ps k hk
  obtain ⟨R, hR⟩ : ∃ R, cmB t ps (n : Int) no = R := ⟨_, rfl⟩
  rw [hR] at hFin ⊢
  clear hR
  obtain ⟨W0, hW0⟩ : ∃ W, w.alloc (.cells #[.string t, .slice a ps.length c, .int .i64 (n : Int), .string no] 34) = W := ⟨_, rfl⟩
  have b0 : Below w.heap.size w W0 := by rw [← hW0]; exact allocBelow _ _
  have z0 : w.heap.size < W0.heap.size := by rw [← hW0]; simp
  have r0 : Rf W0 w.heap.size [.string t, .slice a ps.length c, .int .i64 (n : Int), .string no] := by rw [← hW0]; exact Rf.new _ _ _
  have A0 := h.below b0
  have c0 := r0.at_ 0 _ rfl
  have c1 := r0.at_ 1 _ rfl
  have e1 : (⟨#[116, 114, 101, 101, 32]⟩ : ByteArray).size = 5 := rfl
  have e2 : (⟨#[10]⟩ : ByteArray).size = 1 := rfl
  have e3 : (⟨#[112, 97, 114, 101, 110, 116, 32]⟩ : ByteArray).size = 7 := rfl
  have e4 : (⟨#[116, 105, 109, 101, 32]⟩ : ByteArray).size = 5 := rfl
  have e5 : (⟨#[10, 110, 111, 116, 101, 32]⟩ : ByteArray).size = 6 := rfl
  go_enter Tryz.func54, Tryz.ntmps54
  go_wp2
  go_loopw [3, 4] (fun v i wr => ∃ k : Nat, k ≤ ps.length ∧ i = .int .i64 k ∧ v = .string (cmQ t ps k) ∧ Below W0.heap.size W0 wr) (fun _ i _ => ps.length - (intOf i).toNat)
  case atStart => exact ⟨0, Nat.zero_le _, rfl, by rw [hq0.out], Below.refl _ _⟩
  case round =>
    obtain ⟨k, hk, rfl, rfl, hbel⟩ := hrel
    have rr := r0.below z0 hbel
    have d0 := rr.at_ 0 _ rfl
    have d1 := rr.at_ 1 _ rfl
    have d2 := rr.at_ 2 _ rfl
    have d3 := rr.at_ 3 _ rfl
    have hsz := hbel.size
    have hqk := hqs k hk
    by_cases hlt : k < ps.length
    · have q : (k : Int) < (ps.length : Int) := by omega
      have HQ : Hid (cmQ t ps (k + 1) = ((cmQ t ps k ++ ⟨#[112, 97, 114, 101, 110, 116, 32]⟩) ++ ps.getD k ByteArray.empty) ++ ⟨#[10]⟩) := hqt k hlt
      have hpk := hp k hlt
      obtain ⟨g, off, ex, hgx, dx⟩ := (A0.below hbel).2 k hlt
      subst ex
      obtain ⟨X, hX⟩ : ∃ X, ps.getD k ByteArray.empty = X := ⟨_, rfl⟩
      rw [hX] at HQ hpk dx
      obtain ⟨Y, hY⟩ : ∃ Y, cmQ t ps k = Y := ⟨_, rfl⟩
      rw [hY] at HQ hqk ⊢
      clear hX hY hqt hqs hFin hq0 hDg rr r0 A0 c0 c1
      go_wp2
      go_roundw
      case rel => exact ⟨k + 1, by omega, by go_num, by rw [HQ.out], hbel⟩
      case measure => simp [intOf]; omega
    · have ek : k = ps.length := by omega
      have q : ¬ (k : Int) < (ps.length : Int) := by omega
      obtain ⟨Y, hY⟩ : ∃ Y, cmQ t ps k = Y := ⟨_, rfl⟩
      rw [← ek, hY] at hFin
      rw [hY] at hqk ⊢
      have B0 : Below w.heap.size w wr := b0.trans (hbel.mono b0.size)
      have klt : w.heap.size < wr.heap.size := by omega
      clear hY hqt hqs hq0 rr r0 A0 c0 c1 hW0 b0 hbel
      go_wp2
      go_region_with (go_at_call 77; refine (hDg _).mono ?_; rintro e w1 ⟨rfl, b1⟩; have d3 := (b1.cell (p := ⟨w.heap.size, 3, none⟩) klt).trans d3; have B1 := (below_drew B0).trans (b1.mono (Nat.le_of_lt klt)))
      all_goals
        go_wp2_with fail
        go_ret
        exact ⟨str_ret (by rw [hFin.out]), B1⟩

theorem nt_size {s : ByteArray} (h : nt s = true) : s.size ≤ 60 := by
  have := (of_decide_eq_true h).1
  omega
set_option maxRecDepth 20000 in
set_option maxHeartbeats 2000000 in
theorem specEncodeCommit (t : ByteArray) (a : Option Addr) (c : Nat) (ps : List ByteArray) (tm : Int) (no : ByteArray) (w : World) (h : SS w a ps) (hn : ps.length ≤ 1048576) :
    Calls Tryz.prog 25 #[.agg #[.string t, .slice a ps.length c, .int .i64 tm, .string no]] w fun e w' => e = .returned (.agg #[.int .i64 (cmF t ps tm no), .string (ecT t ps tm no)]) ∧ Below w.heap.size w w' := by
  obtain ⟨W0, hW0⟩ : ∃ W, w.alloc (.cells #[.string t, .slice a ps.length c, .int .i64 tm, .string no] 34) = W := ⟨_, rfl⟩
  have b0 : Below w.heap.size w W0 := by rw [← hW0]; exact allocBelow _ _
  have z0 : W0.heap.size = w.heap.size + 1 := by rw [← hW0]; simp
  have r0 : Rf W0 w.heap.size [.string t, .slice a ps.length c, .int .i64 tm, .string no] := by rw [← hW0]; exact Rf.new _ _ _
  obtain ⟨W1, hW1⟩ : ∃ W, W0.alloc (.cells #[.int .i64 0, .string ⟨#[]⟩] 30) = W := ⟨_, rfl⟩
  have b1 : Below W0.heap.size W0 W1 := by rw [← hW1]; exact allocBelow _ _
  have r1 : Res2 W1 (w.heap.size + 1) (.int .i64 0) (.string ⟨#[]⟩) := by rw [← z0, ← hW1]; exact Res2.new _ _ _ _
  have zz : w.heap.size + 1 < W1.heap.size := by rw [← z0, ← hW1]; simp
  have B1 : Below w.heap.size w W1 := b0.trans (b1.mono b0.size)
  have q0 := r0.below (by omega) b1
  have c0 := q0.at_ 0 _ rfl
  have c1 := q0.at_ 1 _ rfl
  have c2 := q0.at_ 2 _ rfl
  have c3 := q0.at_ 3 _ rfl
  have hC := specCommitFault t a c ps tm no W1 (h.below B1) hn
  go_enter Tryz.func25, Tryz.ntmps25
  go_wp2_with fail
  refine hC.mono ?_
  rintro e w2 ⟨rfl, b2⟩
  have B2 : Below w.heap.size w w2 := B1.trans (b2.mono B1.size)
  have r2 := r1.below (by omega) b2
  have z2 := b2.size
  have q2 := q0.below (by omega) b2
  have h2 := h.below B2
  clear hC hW1 r1 b1 B1 c0 c1 c2 c3 hW0 b0 r0 q0
  by_cases h0 : cmF t ps tm no = 0
  · obtain ⟨k0, k1, k2⟩ := cmF_zero h0
    obtain ⟨x1, x2, x3⟩ := hd_zero k0
    obtain ⟨q1, q3⟩ := inB_lo k1
    have H0 : Hid (cmF t ps tm no = 0) := h0
    have H1 : Hid (ecT t ps tm no = cmB t ps tm no) := ecT_ok h0
    have hD := l6Commit t a c ps tm no w2 h2 (by have := Te.isOf_size x1; omega) x2 (fun k hk => by have := Te.isOf_size (x3 k hk).1; omega) q1 q3 (nt_size k2)
    have c0 := q2.at_ 0 _ rfl
    have c1 := q2.at_ 1 _ rfl
    have c2 := q2.at_ 2 _ rfl
    have c3 := q2.at_ 3 _ rfl
    rw [h0]
    clear h0 k0 k1 k2 x1 x2 x3 q1 q3 q2
    obtain ⟨T, hT⟩ : ∃ T, cmB t ps tm no = T := ⟨_, rfl⟩
    rw [hT] at H1 hD
    clear hT
    go_wp2_with fail
    refine hD.mono ?_
    rintro e w3 ⟨rfl, b3⟩
    have r3 := r2.below (by omega) b3
    have d0 := r3.c0
    have d1 := r3.c1
    have f0 := r3.f0
    have f1 := r3.f1
    have B3 := B2.trans (b3.mono B2.size)
    have HB : Hid (Below w.heap.size w ((w3.setCell ⟨w.heap.size + 1, 0, none⟩ (.int .i64 0)).setCell ⟨w.heap.size + 1, 1, none⟩ (.string T))) := below2 B3 (by omega) _ _
    clear hD r2 r3 b3 b2 B2 B3 z0 c0 c1 c2 c3
    go_wp2
    refine bodyPost_ret (v := .agg #[.int .i64 0, .string T]) (by simp [results, Tryz.results25, go_sem, d0, d1]) rfl ?_
    exact ⟨ec_ret H0.out.symm H1.out.symm, HB.out⟩
  · have H1 : Hid (ecT t ps tm no = ⟨#[]⟩) := ecT_no h0
    obtain ⟨X, hX⟩ : ∃ X, cmF t ps tm no = X := ⟨_, rfl⟩
    have H0 : Hid (cmF t ps tm no = X) := hX
    rw [hX] at h0 ⊢
    have qX : (X != 0) = true := by simpa using h0
    have d0 := r2.c0
    have d1 := r2.c1
    have f0 := r2.f0
    have f1 := r2.f1
    have HB : Hid (Below w.heap.size w ((w2.setCell ⟨w.heap.size + 1, 0, none⟩ (.int .i64 X)).setCell ⟨w.heap.size + 1, 1, none⟩ (.string ⟨#[]⟩))) := below2 B2 (by omega) _ _
    clear h0 hX r2 b2 B2 z0 q2
    go_wp2
    refine bodyPost_ret (v := .agg #[.int .i64 X, .string ⟨#[]⟩]) (by simp [results, Tryz.results25, go_sem, d0, d1]) rfl ?_
    exact ⟨ec_ret H0.out.symm H1.out.symm, HB.out⟩
end Go.Proofs.YtijphomojljckaaGreatDoor.Cm
