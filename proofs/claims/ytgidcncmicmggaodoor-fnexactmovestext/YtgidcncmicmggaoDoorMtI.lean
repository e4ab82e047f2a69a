/- The contracts of the program's moveFault and MovesText. No statement is proved here. -/
import Derived.Test.YtgidcncmicmggaoDoorRows
import Derived.Test.YtgidcncmicmggaoDoorLem
import Derived.Test.YtgidcncmicmggaoDoorStrs
import Derived.Test.YtgidcncmicmggaoDoorDTab
import Derived.Test.YtgidcncmicmggaoDoorOwn
import Derived.Test.YtgidcncmicmggaoDoorFr
import Derived.Test.YtgidcncmicmggaoDoorIn
import Derived.Test.YtgidcncmicmggaoDoorHkT
import Derived.Test.YtgidcncmicmggaoDoorMvL
import Derived.Test.YtgidcncmicmggaoDoorMvT
import Derived.Test.YtgidcncmicmggaoDoorPfC
import Derived.Test.YtgidcncmicmggaoDoorFiC
import Derived.Test.YtgidcncmicmggaoDoorBldF
import Derived.Test.YtgidcncmicmggaoDoorBldG
import Derived.Test.YtgidcncmicmggaoDoorMtB
import Derived.Test.YtgidcncmicmggaoDoorMtP
import Derived.WalkKit
import Derived.ProofKit
import Derived.Below
import Derived.WalkSpells
import Derived.Deep.QuietTactic
import Derived.BigQuiet
set_option linter.unusedVariables false
namespace Go.Proofs.YtgidcncmicmggaoDoor.Mv
open Go.ChangeShapes Go.WideShapes Go.ChangeAt Go.RowKit

set_option maxRecDepth 20000 in
set_option maxHeartbeats 2000000 in
theorem implMoveFault (x y : ByteArray) (z : Int) (w : World) (hx : x.size ≤ 1048576) (hy : y.size ≤ 1048576) :
    Calls Tryd.prog 15 #[.agg #[.string x, .string y, .int .i64 z]] w fun e w' => e = .returned (.int .i64 (mvF (x, z, y))) ∧ Below w.heap.size w w' := by
  have e1 := mvF_from (o := (x, z, y))
  have e2 := mvF_to (o := (x, z, y))
  have e3 := mvF_score (o := (x, z, y))
  have e4 := mvF_ok (o := (x, z, y))
  simp only [] at e1 e2 e3 e4
  have hPx := fun w => implPathFault x w hx
  have hPy := fun w => implPathFault y w hy
  have p1 := pf_one (s := x)
  have p2 := pf_one (s := y)
  obtain ⟨P, hP⟩ : ∃ P, pf x = P := ⟨_, rfl⟩
  obtain ⟨Q, hQ⟩ : ∃ P, pf y = P := ⟨_, rfl⟩
  obtain ⟨V, hV⟩ : ∃ V, mvF (x, z, y) = V := ⟨_, rfl⟩
  simp only [hP, hQ, hV] at hPx hPy p1 p2 e1 e2 e3 e4
  rw [hV]
  clear hP hQ hV
  obtain ⟨W1, hW1⟩ : ∃ W, w.alloc (.cells #[.string x, .string y, .int .i64 z] 36) = W := ⟨_, rfl⟩
  have b1 : Below w.heap.size w W1 := by rw [← hW1]; exact allocBelow _ _
  have z1 : w.heap.size < W1.heap.size := by rw [← hW1]; simp
  have r1 : Rf W1 w.heap.size [.string x, .string y, .int .i64 z] := by rw [← hW1]; exact Rf.new _ _ _
  have c0 := r1.at_ 0 _ rfl
  go_enter Tryd.func15, Tryd.ntmps15
  go_wp2_with fail
  refine (hPx _).mono ?_; rintro e w2 ⟨rfl, b2⟩
  have B2 : Below w.heap.size w w2 := b1.trans (b2.mono b1.size)
  have r2 := r1.below z1 b2
  have z2 := b2.size
  clear hPx r1 c0 hW1 b1 b2
  by_cases hP0 : P = 0
  rotate_left
  · have HR : Hid (V = P) := (e1 hP0).trans (p1 hP0).symm
    have q1 : (P != 0) = true := by simpa using hP0
    clear e1 e2 e3 e4 p1 p2 hPy r2
    go_wp2
    go_ret
    exact ⟨ret_int HR.out.symm, B2⟩
  subst hP0
  have c1 := r2.at_ 1 _ rfl
  go_wp2_with fail
  refine (hPy _).mono ?_; rintro e w3 ⟨rfl, b3⟩
  have B3 : Below w.heap.size w w3 := B2.trans (b3.mono B2.size)
  have r3 := r2.below (by omega) b3
  clear hPy r2 c1 B2 b3
  by_cases hQ0 : Q = 0
  rotate_left
  · have HR : Hid (V = Q) := (e2 hQ0).trans (p2 hQ0).symm
    have q1 : (Q != 0) = true := by simpa using hQ0
    clear e1 e2 e3 e4 p1 p2 r3
    go_wp2
    go_ret
    exact ⟨ret_int HR.out.symm, B3⟩
  subst hQ0
  have c2 := r3.at_ 2 _ rfl
  by_cases hz0 : z < 0
  · have HR : Hid (V = 3) := e3 (by simp) (by simp) (decide_eq_false (fun q => by have := q.1; omega))
    clear e1 e2 e3 e4 p1 p2 r3
    go_wp2
    go_ret
    exact ⟨ret_int HR.out.symm, B3⟩
  by_cases hz1 : (1000 : Int) < z
  · have HR : Hid (V = 3) := e3 (by simp) (by simp) (decide_eq_false (fun q => by have := q.2; omega))
    clear e1 e2 e3 e4 p1 p2 r3
    go_wp2
    go_ret
    exact ⟨ret_int HR.out.symm, B3⟩
  have HR : Hid (V = 0) := e4 (by simp) (by simp) (decide_eq_true ⟨by omega, by omega⟩)
  clear e1 e2 e3 e4 p1 p2 r3
  go_wp2
  go_ret
  exact ⟨ret_int HR.out.symm, B3⟩
theorem TG0 {w : World} : BI (w.heap.size + 1) w.heap.size [] (w.alloc (.cells #[.pointer none, .slice none 0 0] 43)) :=
  .inl ⟨by omega, _, World.alloc_heap_new w _, World.ownsRowF_nil _ _ _ _⟩
theorem BAbelow {B b : Nat} {p : Value} {bs : List Value} {w w' : World} (h : BA B b p bs w) (hb : Below w.heap.size w w') : BA B b p bs w' := by
  obtain ⟨h1, v, hh, hown⟩ := h
  have hlt : b < w.heap.size := by
    rcases Nat.lt_or_ge b w.heap.size with h' | h'
    · exact h'
    · simp [Array.getElem?_eq_none h'] at hh
  exact ⟨h1, v, (hb.block b hlt).trans hh, hown.kept (grownOfBelow hb none) (by cases hv : v.ownBlock <;> simp)⟩
theorem mvF_zero {o : Ob} (h : mvF o = 0) : inB o.2.1 0 1000 = true := by
  unfold mvF at h
  split at h
  · split at h
    · assumption
    · cases h
  · cases h
theorem bytes_pre (x y : ByteArray) : Lib.strCells (((x ++ ⟨#[32, 45, 62, 32]⟩) ++ y) ++ ⟨#[32]⟩) = Lib.byteCells (x.data.toList ++ [32, 45, 62, 32] ++ y.data.toList ++ [32]) := by
  rw [Lib.strCells_eq]
  simp [ByteArray.data_append]
theorem cells_line (t : List UInt8) (x y : ByteArray) (z : Int) : ((Lib.byteCells t ++ Lib.strCells (((x ++ ⟨#[32, 45, 62, 32]⟩) ++ y) ++ ⟨#[32]⟩)) ++ Lib.strCells (itB z)) ++ [.int .u8 10] = Lib.byteCells (t ++ mvB (x, z, y)) := by
  rw [bytes_pre, Lib.strCells_eq]
  unfold mvB
  simp only [Lib.byteCells_append, List.append_assoc]
  rfl
set_option maxRecDepth 20000 in
set_option maxHeartbeats 8000000 in
theorem implMovesText (a : Option Addr) (c : Nat) (l : List Ob) (w : World) (h : OB w.heap.size w a l) (hf : SmallO l) (hn : l.length ≤ 1048576) (hTa : TaG w) (hgB : 0 < w.heap.size) :
    Calls Tryd.prog 7 #[.slice a l.length c] w fun e w' => e = .returned (.agg #[.int .i64 (mtC l), .string (mtT l)]) ∧ Below w.heap.size w w' := by
  obtain ⟨b, hb⟩ : ∃ b, w.heap.size = b := ⟨_, rfl⟩
  rw [hb] at h hgB
  obtain ⟨W1, hW1⟩ : ∃ W, w.alloc (.cells #[.int .i64 0, .string ⟨#[]⟩] 25) = W := ⟨_, rfl⟩
  have b1 : Below b w W1 := by rw [← hW1, ← hb]; exact allocBelow _ _
  have HZ1 : Hid (W1.heap.size = b + 1) := by show _ = _; rw [← hW1, ← hb]; simp
  have r1 : Rf W1 b [.int .i64 0, .string ⟨#[]⟩] := by rw [← hW1, ← hb]; exact Rf.new _ _ _
  by_cases hm : 60 < l.length
  · have q : (60 : Int) < (l.length : Int) := by omega
    have HC : Hid (mtC l = 2 ∧ mtT l = ⟨#[]⟩) := mt_many hm
    have d0 := r1.at_ 0 _ rfl
    have d1 := r1.at_ 1 _ rfl
    have f0 := r1.fz 0
    have f1 := r1.fz 1
    go_enter Tryd.func7, Tryd.ntmps7
    go_wp2
    refine bodyPost_ret (v := .agg #[.int .i64 2, .string ⟨#[]⟩]) (by simp [results, Tryd.results7, go_sem, d0, d1]) rfl ?_
    rw [hb]
    exact ⟨ret_two HC.out.1.symm HC.out.2.symm, below2 b1 _ _⟩
  have q : ¬ (60 : Int) < (l.length : Int) := by omega
  have HM : Hid (¬ 60 < l.length) := hm
  have hl60 : l.length ≤ 60 := by omega
  obtain ⟨W2, hW2⟩ : ∃ W, W1.alloc (.cells #[.pointer none, .slice none 0 0] 43) = W := ⟨_, rfl⟩
  have b2 : Below (b + 1) W1 W2 := by rw [← hW2, ← HZ1.out]; exact allocBelow _ _
  have Z2 : b + 2 ≤ W2.heap.size := by have := HZ1.out; rw [← hW2]; simp; omega
  have G2 : BI (b + 2) (b + 1) (Lib.byteCells (mtL (l.take 0))) W2 := by
    have := TG0 (w := W1)
    rw [HZ1.out, hW2] at this
    exact this
  have BA2 : Below b w W2 := b1.trans (b2.mono (by omega))
  have O2 : OB b W2 a l := h.below (by rw [hb]; exact BA2)
  have R2 : Rf W2 b [.int .i64 0, .string ⟨#[]⟩] := r1.below (by have := HZ1.out; omega) (by rw [HZ1.out]; exact b2)
  have T2 : TaG W2 := hTa.below BA2 hgB
  have hz1 : W1.heap.size = b + 1 := HZ1.out
  clear hm h r1 b1 b2 hTa HZ1
  go_enter Tryd.func7, Tryd.ntmps7
  go_wp2
  clear hz1
  go_loopw [5, 6, 13] (fun _m _c i wr => ∃ k : Nat, k ≤ l.length ∧ i = .int .i64 k ∧ Hid (mtF (l.drop k) = mtF l) ∧ (mtL (l.take k)).length ≤ k * 4000000 ∧ BI (b + 2) (b + 1) (Lib.byteCells (mtL (l.take k))) wr ∧ Kb (b + 2) (b + 1) W2 wr ∧ b + 2 ≤ wr.heap.size) (fun _ _ i _ => l.length - (intOf i).toNat)
  case atStart => exact ⟨0, Nat.zero_le _, rfl, rfl, by simp [mtL], G2, Kb.refl _ _ _, Z2⟩
  case round =>
    obtain ⟨k, hk, rfl, hG, hT, G, Kk, Z⟩ := hrel
    clear G2 Z2
    have BK : Below (b + 1) W2 wr := Kk.below (by omega)
    have O : OB b wr a l := fun j hj => by
      obtain ⟨g, off, e, hg, e0, e1, e2⟩ := O2 j hj
      exact ⟨g, off, e, hg, (BK.cell (p := ⟨g, off + j * 3, none⟩) (show g < b + 1 by omega)).trans e0, (BK.cell (p := ⟨g, off + j * 3 + 1, none⟩) (show g < b + 1 by omega)).trans e1, (BK.cell (p := ⟨g, off + j * 3 + 2, none⟩) (show g < b + 1 by omega)).trans e2⟩
    have R : Rf wr b [.int .i64 0, .string ⟨#[]⟩] := ⟨fun j u hj => (BK.cell (p := ⟨b, j, none⟩) (show b < b + 1 by omega)).trans (R2.at_ j u hj), fun j => (BK.frozen (p := ⟨b, j, none⟩) (show b < b + 1 by omega)).trans (R2.fz j)⟩
    have TA : TaG wr := T2.below BK (by omega)
    have B : Below b w wr := BA2.trans (BK.mono (by omega))
    by_cases hlt : k < l.length
    · have qk : (k : Int) < (l.length : Int) := by omega
      obtain ⟨g, off, e, hg, d0, d1, d2⟩ := O k hlt
      subst e
      have hs := hf _ (ob_mem l k hlt)
      have bad : ∀ c, mvF (l.getD k onil) = c → ¬ c = 0 → Hid (mtC l = c ∧ mtT l = ⟨#[]⟩) := fun c hc h0 => mt_bad HM.out hlt hG.out hc h0
      have good : mvF (l.getD k onil) = 0 → Hid (mtF (l.drop (k + 1)) = mtF l) := fun h0 => (mtF_go hlt h0).symm.trans hG.out
      have eL := mtL_go hlt
      obtain ⟨C, hC⟩ : ∃ C, l.getD k onil = C := ⟨_, rfl⟩
      rw [hC] at d0 d1 d2 hs bad good eL
      obtain ⟨x, z, y⟩ := C
      clear hC
      simp only [] at d0 d1 d2 hs
      have eN := mvB_len (o := (x, z, y))
      have eZ := mvF_zero (o := (x, z, y))
      simp only [] at eN eZ
      have hMF := fun w => implMoveFault x y z w hs.1 hs.2
      obtain ⟨V, hV⟩ : ∃ V, mvF (x, z, y) = V := ⟨_, rfl⟩
      simp only [hV] at hMF bad good eZ
      clear hV hG O
      obtain ⟨W3, hW3⟩ : ∃ W, wr.alloc (.cells #[.string x, .string y, .int .i64 z] 36) = W := ⟨_, rfl⟩
      have b3 : Below wr.heap.size wr W3 := by rw [← hW3]; exact allocBelow _ _
      have m3 : W3.heap[wr.heap.size]? = some (.cells #[.string x, .string y, .int .i64 z] 36 (0, 0)) := by rw [← hW3]; exact World.alloc_heap_new wr _
      have r3 : Rf W3 wr.heap.size [.string x, .string y, .int .i64 z] := by rw [← hW3]; exact Rf.new _ _ _
      have c0 := r3.at_ 0 _ rfl
      have c1 := r3.at_ 1 _ rfl
      have c2 := r3.at_ 2 _ rfl
      go_wp2_with fail
      refine (hMF _).mono ?_; rintro e w4 ⟨rfl, b4⟩
      have m4 : w4.heap[wr.heap.size]? = some (.cells #[.string x, .string y, .int .i64 z] 36 (0, 0)) := (Km.below b4) _ _ m3
      have BW : Below wr.heap.size wr w4 := b3.trans (b4.mono b3.size)
      clear hMF c0 c1 c2 r3 m3 b3 b4 hW3 d0 d1 d2 hg
      by_cases hV0 : V = 0
      rotate_left
      · have HR := bad V rfl hV0
        have q1 : (V != 0) = true := by simpa using hV0
        have R9 := R.below (by omega) BW
        have B9 : Below b w w4 := B.trans (BW.mono (by omega))
        have y0 := R9.at_ 0 _ rfl
        have y1 := R9.at_ 1 _ rfl
        have f0 := R9.fz 0
        have f1 := R9.fz 1
        clear R B R9 bad good eL eN eZ hT G Kk TA BK m4
        go_wp2
        refine bodyPost_ret (v := .agg #[.int .i64 V, .string ⟨#[]⟩]) (by simp [results, Tryd.results7, go_sem, y0, y1]) rfl ?_
        rw [hb]
        exact ⟨ret_two HR.out.1.symm HR.out.2.symm, below2 B9 _ _⟩
      subst hV0
      have HG := good rfl
      have hI := eZ (by simp)
      obtain ⟨zb1, zb2⟩ := inB_bd hI
      have hN := eN hI
      have HT1 : Hid ((mtL (l.take (k + 1))).length ≤ (k + 1) * 4000000) := by
        show _ ≤ _
        rw [eL, List.length_append]
        omega
      have HLn : Hid (((Lib.byteCells (mtL (l.take k)) ++ Lib.strCells (((x ++ ⟨#[32, 45, 62, 32]⟩) ++ y) ++ ⟨#[32]⟩)) ++ Lib.strCells (itB z)) ++ [.int .u8 10] = Lib.byteCells (mtL (l.take (k + 1)))) := by show _ = _; rw [eL, ← cells_line]
      have hTl : (Lib.byteCells (mtL (l.take k))).length ≤ 240000000 := by rw [Lib.byteCells_length]; omega
      have hIz := it_size zb1 (by omega)
      obtain ⟨bs, hbs⟩ : ∃ bs, Lib.byteCells (mtL (l.take k)) = bs := ⟨_, rfl⟩
      rw [hbs] at G HLn hTl
      have G4 : BI (b + 2) (b + 1) bs w4 := G.elim (fun q => .inl (BAbelow q BW)) (fun q => .inr (BAbelow q BW))
      have K4 : Kb (b + 2) (b + 1) W2 w4 := Kk.trans (Kb.of (BW.mono Z))
      have Z4 : b + 2 ≤ w4.heap.size := Nat.le_trans Z BW.size
      have TA4 : TaG w4 := TA.below BW (by omega)
      have hS1 : (((x ++ (⟨#[32, 45, 62, 32]⟩ : ByteArray)) ++ y) ++ ⟨#[32]⟩).size ≤ 3000000 := by
        have e1 : (⟨#[32, 45, 62, 32]⟩ : ByteArray).size = 4 := rfl
        have e2 : (⟨#[32]⟩ : ByteArray).size = 1 := rfl
        rw [ByteArray.size_append, ByteArray.size_append, ByteArray.size_append, e1, e2]
        omega
      have s1 : ¬ 9223372036854775807 < x.size + 4 := by omega
      have s2 : ¬ 9223372036854775807 < x.size + 4 + y.size := by omega
      have s3 : ¬ 9223372036854775807 < x.size + 4 + y.size + 1 := by omega
      have c0 : w4.cell? ⟨wr.heap.size, 0, none⟩ = some (.string x) := by rw [Lib.cell_of_heap m4]; rfl
      have c1 : w4.cell? ⟨wr.heap.size, 1, none⟩ = some (.string y) := by rw [Lib.cell_of_heap m4]; rfl
      have hW1' := writeStringM (b + 2) (b + 1) bs (((x ++ (⟨#[32, 45, 62, 32]⟩ : ByteArray)) ++ y) ++ ⟨#[32]⟩) w4 G4 (by omega) Z4
      clear bad good eL eN eZ hT G Kk TA R B BK BW hbs hI
      go_wp2_with fail
      refine hW1'.mono ?_; rintro e w5 ⟨rfl, G5, k5, km5⟩
      have m5 := km5 _ _ m4
      have K5 := K4.trans k5
      have Z5 : b + 2 ≤ w5.heap.size := Nat.le_trans Z4 k5.size
      have TA5 : TaG w5 := TA4.below (k5.below (by omega)) (by omega)
      have c2 : w5.cell? ⟨wr.heap.size, 2, none⟩ = some (.int .i64 z) := by rw [Lib.cell_of_heap m5]; rfl
      have hFI := formatInt z zb1 (by omega) w5 TA5
      clear hW1' c0 c1 m4 m5 km5 k5 K4 G4 TA4
      go_wp2_with fail
      refine hFI.mono ?_; rintro e w6 ⟨rfl, b6⟩
      have G6 := BAbelow G5 b6
      have K6 := K5.trans (Kb.of (b6.mono Z5))
      have Z6 : b + 2 ≤ w6.heap.size := Nat.le_trans Z5 b6.size
      obtain ⟨ZZ, hZZ⟩ : ∃ Z, itB z = Z := ⟨_, rfl⟩
      rw [hZZ] at HLn hIz
      have l6 : (bs ++ Lib.strCells (((x ++ (⟨#[32, 45, 62, 32]⟩ : ByteArray)) ++ y) ++ ⟨#[32]⟩)).length ≤ 250000000 := by
        rw [List.length_append, Lib.strCells_length]
        omega
      have hW2' := writeStringG (b + 2) (b + 1) _ ZZ w6 (.inr G6) (by omega) Z6
      rw [hZZ]
      clear hFI c2 TA5 G5 K5 Z5 b6 hZZ
      go_wp2_with fail
      refine hW2'.mono ?_; rintro e w7 ⟨rfl, G7, k7⟩
      have K7 := K6.trans k7
      have Z7 : b + 2 ≤ w7.heap.size := Nat.le_trans Z6 k7.size
      have hW3' := writeByteG (b + 2) (b + 1) _ 10 w7 (.inr G7) (by rw [List.length_append, Lib.strCells_length]; omega) Z7
      clear hW2' G6 K6 k7
      go_wp2_with fail
      refine hW3'.mono ?_; rintro e w8 ⟨rfl, G8, k8⟩
      have K8 : Hid (Kb (b + 2) (b + 1) W2 w8) := K7.trans k8
      have Z8 : b + 2 ≤ w8.heap.size := Nat.le_trans Z7 k8.size
      have G9 : Hid (BI (b + 2) (b + 1) (Lib.byteCells (mtL (l.take (k + 1)))) w8) := by show BI _ _ _ _; rw [← HLn.out]; exact .inr G8
      clear hW3' G7 G8 K7 k8 HLn l6
      go_wp2
      go_roundw
      case rel => exact ⟨k + 1, by omega, by go_num, HG, HT1.out, G9.out, K8.out, Z8⟩
      case measure => first | (simp [intOf]; omega) | simp [intOf]
    · have qk : ¬ (k : Int) < (l.length : Int) := by omega
      obtain rfl : k = l.length := by omega
      have HR : Hid (mtC l = 0 ∧ mtT l = ⟨(mtL l).toArray⟩) := mt_ok HM.out hG.out
      rw [List.take_length] at G
      have hS := bString (b + 1) (b + 1) (mtL l) wr (G.elim (fun q => .inl q.toF) (fun q => .inr q.toF)) (by omega)
      obtain ⟨TT, hTT⟩ : ∃ T, (⟨(mtL l).toArray⟩ : ByteArray) = T := ⟨_, rfl⟩
      rw [hTT] at HR
      simp only [hTT] at hS
      clear hTT hG hT G Kk TA O BK
      go_wp2_with fail
      refine hS.mono ?_; rintro e w4 ⟨rfl, _, b4⟩
      have R9 : Rf w4 b [.int .i64 0, .string ⟨#[]⟩] := ⟨fun j u hj => (b4.cell (p := ⟨b, j, none⟩) (show b < b + 1 by omega)).trans (R.at_ j u hj), fun j => (b4.frozen (p := ⟨b, j, none⟩) (show b < b + 1 by omega)).trans (R.fz j)⟩
      have B9 : Below b w w4 := B.trans (b4.mono (by omega))
      have y0 := R9.at_ 0 _ rfl
      have y1 := R9.at_ 1 _ rfl
      have f0 := R9.fz 0
      have f1 := R9.fz 1
      clear R B R9 hS b4
      go_wp2
      refine bodyPost_ret (v := .agg #[.int .i64 0, .string TT]) (by simp [results, Tryd.results7, go_sem, y0, y1]) rfl ?_
      try rw [hb]
      exact ⟨ret_two HR.out.1.symm HR.out.2.symm, below2 B9 _ _⟩
end Go.Proofs.YtgidcncmicmggaoDoor.Mv
