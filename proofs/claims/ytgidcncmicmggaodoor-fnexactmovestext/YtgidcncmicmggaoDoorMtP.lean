/- The contracts of MovesText, of the specification and of the program. No statement is proved here. -/
import Derived.Test.YtgidcncmicmggaoDoorRows
import Derived.Test.YtgidcncmicmggaoDoorLem
import Derived.Test.YtgidcncmicmggaoDoorStrs
import Derived.Test.YtgidcncmicmggaoDoorDTab
import Derived.Test.YtgidcncmicmggaoDoorOwn
import Derived.Test.YtgidcncmicmggaoDoorFr
import Derived.Test.YtgidcncmicmggaoDoorIn
import Derived.Test.YtgidcncmicmggaoDoorHkT
import Derived.Test.YtgidcncmicmggaoDoorMvL
import Derived.Test.YtgidcncmicmggaoDoorMvT
import Derived.Test.YtgidcncmicmggaoDoorPfC
import Derived.Test.YtgidcncmicmggaoDoorPfS
import Derived.Test.YtgidcncmicmggaoDoorFpS
import Derived.Test.YtgidcncmicmggaoDoorFiC
import Derived.Test.YtgidcncmicmggaoDoorBldF
import Derived.Test.YtgidcncmicmggaoDoorBldG
import Derived.Test.YtgidcncmicmggaoDoorMtB
import Derived.WalkKit
import Derived.ProofKit
import Derived.Below
import Derived.WalkSpells
import Derived.Deep.QuietTactic
import Derived.BigQuiet
import Derived.Deep.RegionHeld
import Derived.Deep.RegionWith
set_option linter.unusedVariables false
namespace Go.Proofs.YtgidcncmicmggaoDoor.Mv
open Go.ChangeShapes Go.WideShapes Go.ChangeAt Go.RowKit

theorem takeD {P : Program} {md : Region.Mode} {ops : Array Oper} {Q : Exit → Act → World → Prop} {S : World → Prop} {i d : Nat} {oi : Oper} {v : Value} {fuel : Nat} {listed listed' : Array Bool} {a : Act} {w : World} (hi : ops[i]? = some oi)
    (hs : Region.noSelect ops = true) (hf : Region.free md ops listed i = true) (hr : (Region.ready md ops listed).contains i = true)
    (hQ : ∀ c a w, Q (.panic c) (a.put oi.dst v) w → Q (.panic c) a w) (hy : YieldsIf P ops S oi v a) (hS : S w) (hd : oi.dst = some d) (hl : listed.setIfInBounds i true = listed')
    (h : wpAnyH P md ops Q S fuel listed' (a.put (some d) v) w) : wpAnyH P md ops Q S (fuel + 1) listed a w := by
  subst hl
  exact wpAnyH_take hi hs hf hr hQ hy hS (by rw [hd]; exact h)
/-- The fault of a move. -/
def mvF (o : Ob) : Int := if pf o.1 = 0 ∧ pf o.2.2 = 0 then (if inB o.2.1 0 1000 = true then 0 else 3) else 1
/-- Its line. -/
def mvB (o : Ob) : List UInt8 := o.1.data.toList ++ [32, 45, 62, 32] ++ o.2.2.data.toList ++ [32] ++ (itB o.2.1).data.toList ++ [10]
def mtL (l : List Ob) : List UInt8 := l.flatMap mvB
def mtF : List Ob → Int
  | [] => 0
  | o :: t => if mvF o = 0 then mtF t else mvF o
/-- What MovesText answers. -/
def mtC (l : List Ob) : Int := if 60 < l.length then 2 else mtF l
def mtT (l : List Ob) : ByteArray := if mtC l = 0 then ⟨(mtL l).toArray⟩ else ⟨#[]⟩
theorem pf_one {s : ByteArray} (h : ¬ pf s = 0) : pf s = 1 := by
  unfold pf at h ⊢
  split
  · rename_i q; rw [if_pos q] at h; exact absurd rfl h
  · rfl
theorem mvF_from {o : Ob} (h : ¬ pf o.1 = 0) : mvF o = 1 := if_neg (fun q => h q.1)
theorem mvF_to {o : Ob} (h : ¬ pf o.2.2 = 0) : mvF o = 1 := if_neg (fun q => h q.2)
theorem mvF_score {o : Ob} (h1 : pf o.1 = 0) (h2 : pf o.2.2 = 0) (h : inB o.2.1 0 1000 = false) : mvF o = 3 := by unfold mvF; rw [if_pos ⟨h1, h2⟩, h]; rfl
theorem mvF_ok {o : Ob} (h1 : pf o.1 = 0) (h2 : pf o.2.2 = 0) (h : inB o.2.1 0 1000 = true) : mvF o = 0 := by unfold mvF; rw [if_pos ⟨h1, h2⟩, if_pos h]
theorem mtF_bad {l : List Ob} {k : Nat} (hk : k < l.length) (h : ¬ mvF (l.getD k onil) = 0) : mtF (l.drop k) = mvF (l.getD k onil) := by rw [ob_drop l k hk, mtF, if_neg h]
theorem mtF_go {l : List Ob} {k : Nat} (hk : k < l.length) (h : mvF (l.getD k onil) = 0) : mtF (l.drop k) = mtF (l.drop (k + 1)) := by rw [ob_drop l k hk, mtF, if_pos h]
theorem mtL_go {l : List Ob} {k : Nat} (hk : k < l.length) : mtL (l.take (k + 1)) = mtL (l.take k) ++ mvB (l.getD k onil) := by
  unfold mtL; rw [ob_take l k hk, List.flatMap_append]; simp
theorem mt_many {l : List Ob} (h : 60 < l.length) : mtC l = 2 ∧ mtT l = ⟨#[]⟩ := by
  have : mtC l = 2 := if_pos h
  exact ⟨this, if_neg (by rw [this]; decide)⟩
theorem mt_bad {l : List Ob} (h : ¬ 60 < l.length) {k : Nat} (hk : k < l.length) (hG : mtF (l.drop k) = mtF l) {c : Int} (hc : mvF (l.getD k onil) = c) (h0 : ¬ c = 0) : mtC l = c ∧ mtT l = ⟨#[]⟩ := by
  have e : mtC l = c := by unfold mtC; rw [if_neg h, ← hG, mtF_bad hk (by rw [hc]; exact h0), hc]
  exact ⟨e, if_neg (by rw [e]; exact h0)⟩
theorem mt_ok {l : List Ob} (h : ¬ 60 < l.length) (hG : mtF (l.drop l.length) = mtF l) : mtC l = 0 ∧ mtT l = ⟨(mtL l).toArray⟩ := by
  have e : mtC l = 0 := by unfold mtC; rw [if_neg h, ← hG, List.drop_length]; rfl
  exact ⟨e, if_pos e⟩
theorem inB_bd {n : Int} (h : inB n 0 1000 = true) : 0 ≤ n ∧ n ≤ 1000 := of_decide_eq_true h
theorem mvB_len {o : Ob} (h : inB o.2.1 0 1000 = true) : (mvB o).length ≤ o.1.size + o.2.2.size + 16 := by
  obtain ⟨q1, q2⟩ := inB_bd h
  have := it_size q1 (by omega)
  rw [← size_eq] at this
  simp only [mvB, List.length_append, List.length_cons, List.length_nil, size_eq] at this ⊢
  omega
theorem arr_app (a b : List UInt8) : (⟨a.toArray⟩ : ByteArray) ++ ⟨b.toArray⟩ = ⟨(a ++ b).toArray⟩ := by
  apply WideShapes.bytes_inj
  simp [ByteArray.data_append]
theorem self_arr (s : ByteArray) : s = ⟨s.data.toList.toArray⟩ := by
  apply WideShapes.bytes_inj
  simp
theorem line_eq (t : List UInt8) (x y : ByteArray) (z : Int) : (((((((⟨t.toArray⟩ : ByteArray) ++ x) ++ ⟨#[32, 45, 62, 32]⟩) ++ y) ++ ⟨#[32]⟩) ++ itB z) ++ ⟨#[10]⟩) = ⟨(t ++ mvB (x, z, y)).toArray⟩ := by
  apply WideShapes.bytes_inj
  simp [ByteArray.data_append, mvB]
theorem dec_it {n : Int} (h : 0 ≤ n) : ∃ m : Nat, n = m ∧ decB m = itB n := by
  obtain ⟨m, rfl⟩ := Int.eq_ofNat_of_zero_le h
  refine ⟨m, rfl, ?_⟩
  apply WideShapes.bytes_inj
  show Lib.decDigits m = Lib.itoa (m : Int)
  unfold Lib.itoa
  rw [if_neg (by omega)]
  simp
theorem keepc {w w' : World} {g o : Nat} {v : Value} (b : Below w.heap.size w w') (hg : g < w.heap.size) (d : w.cell? ⟨g, o, none⟩ = some v) : w'.cell? ⟨g, o, none⟩ = some v := (b.cell (p := ⟨g, o, none⟩) hg).trans d
theorem ret_two {a b : Int} {s t : ByteArray} (h : a = b) (k : s = t) : Ending.returned (.agg #[.int .i64 a, .string s]) = .returned (.agg #[.int .i64 b, .string t]) := by rw [h, k]
theorem below2 {b : Nat} {w w' : World} (h : Below b w w') (x0 x1 : Value) : Below b w ((w'.setCell ⟨b, 0, none⟩ x0).setCell ⟨b, 1, none⟩ x1) := (h.setCell (p := ⟨b, 0, none⟩) (Nat.le_refl _) _).setCell (p := ⟨b, 1, none⟩) (Nat.le_refl _) _
set_option maxRecDepth 20000 in
set_option maxHeartbeats 8000000 in
theorem specMovesText (a : Option Addr) (c : Nat) (l : List Ob) (w : World) (h : OB w.heap.size w a l) (hf : SmallO l) (hn : l.length ≤ 1048576) :
    Calls Tryd.prog 5 #[.slice a l.length c] w fun e w' => e = .returned (.agg #[.int .i64 (mtC l), .string (mtT l)]) ∧ Below w.heap.size w w' := by
  obtain ⟨b, hb⟩ : ∃ b, w.heap.size = b := ⟨_, rfl⟩
  rw [hb] at h
  obtain ⟨W1, hW1⟩ : ∃ W, w.alloc (.cells #[.int .i64 0, .string ⟨#[]⟩] 25) = W := ⟨_, rfl⟩
  have b1 : Below b w W1 := by rw [← hW1, ← hb]; exact allocBelow _ _
  have z1 : b < W1.heap.size := by rw [← hW1, ← hb]; simp
  have r1 : Rf W1 b [.int .i64 0, .string ⟨#[]⟩] := by rw [← hW1, ← hb]; exact Rf.new _ _ _
  by_cases hm : 60 < l.length
  · have q : (60 : Int) < (l.length : Int) := by omega
    have HC : Hid (mtC l = 2 ∧ mtT l = ⟨#[]⟩) := mt_many hm
    have d0 := r1.at_ 0 _ rfl
    have d1 := r1.at_ 1 _ rfl
    have f0 := r1.fz 0
    have f1 := r1.fz 1
    go_enter Tryd.func5, Tryd.ntmps5
    go_wp2
    refine bodyPost_ret (v := .agg #[.int .i64 2, .string ⟨#[]⟩]) (by simp [results, Tryd.results5, go_sem, d0, d1]) rfl ?_
    rw [hb]
    exact ⟨ret_two HC.out.1.symm HC.out.2.symm, below2 b1 _ _⟩
  have q : ¬ (60 : Int) < (l.length : Int) := by omega
  have HM : Hid (¬ 60 < l.length) := hm
  have hOB : OB b W1 a l := h.below (by rw [hb]; exact b1)
  have hl60 : l.length ≤ 60 := by omega
  clear hm h
  go_enter Tryd.func5, Tryd.ntmps5
  go_wp2
  go_loopw [3, 4] (fun t i wr => ∃ k : Nat, k ≤ l.length ∧ i = .int .i64 k ∧ t = .string ⟨(mtL (l.take k)).toArray⟩ ∧ Hid (mtF (l.drop k) = mtF l) ∧ (mtL (l.take k)).length ≤ k * 4000000 ∧ Rf wr b [.int .i64 0, .string ⟨#[]⟩] ∧ OB b wr a l ∧ Below b w wr ∧ b < wr.heap.size) (fun _ i _ => l.length - (intOf i).toNat)
  case atStart => exact ⟨0, Nat.zero_le _, rfl, rfl, rfl, by simp [mtL], r1, hOB, b1, z1⟩
  case round =>
    obtain ⟨k, hk, rfl, rfl, hG, hT, R, O, B, Z⟩ := hrel
    clear r1 hOB b1 z1
    by_cases hlt : k < l.length
    · have qk : (k : Int) < (l.length : Int) := by omega
      obtain ⟨g, off, e, hg, d0, d1, d2⟩ := O k hlt
      subst e
      have hs := hf _ (ob_mem l k hlt)
      have bad : ∀ c, mvF (l.getD k onil) = c → ¬ c = 0 → Hid (mtC l = c ∧ mtT l = ⟨#[]⟩) := fun c hc h0 => mt_bad HM.out hlt hG.out hc h0
      have good : mvF (l.getD k onil) = 0 → Hid (mtF (l.drop (k + 1)) = mtF l) := fun h0 => (mtF_go hlt h0).symm.trans hG.out
      have eL := mtL_go hlt
      obtain ⟨C, hC⟩ : ∃ C, l.getD k onil = C := ⟨_, rfl⟩
      rw [hC] at d0 d1 d2 hs bad good eL
      obtain ⟨x, z, y⟩ := C
      clear hC
      simp only [] at d0 d1 d2 hs
      have e1 := mvF_from (o := (x, z, y))
      have e2 := mvF_to (o := (x, z, y))
      have e3 := mvF_score (o := (x, z, y))
      have e4 := mvF_ok (o := (x, z, y))
      have eN := mvB_len (o := (x, z, y))
      simp only [] at e1 e2 e3 e4 eN
      have hPx := fun w => specPathFault x w hs.1
      have hPy := fun w => specPathFault y w hs.2
      have hIn := fun w => l1In z 0 1000 w
      have p1 := pf_one (s := x)
      have p2 := pf_one (s := y)
      obtain ⟨P, hP⟩ : ∃ P, pf x = P := ⟨_, rfl⟩
      obtain ⟨Q, hQ⟩ : ∃ P, pf y = P := ⟨_, rfl⟩
      obtain ⟨I, hI⟩ : ∃ I, inB z 0 1000 = I := ⟨_, rfl⟩
      have hzb : I = true → 0 ≤ z ∧ z ≤ 1000 := fun h => inB_bd (hI.trans h)
      simp only [hP, hQ, hI] at hPx hPy hIn p1 p2 e1 e2 e3 e4 eN
      clear hP hQ hI hG
      by_cases hP0 : P = 0
      rotate_left
      · have HR := bad 1 (e1 hP0) (by decide)
        have q1 : (P != 0) = true := by simpa using hP0
        clear bad good e1 e2 e3 e4 p1 p2 hPy hIn eL eN hzb hT
        go_wp2_with fail
        refine (hPx _).mono ?_; rintro e w2 ⟨rfl, BW⟩
        clear hPx
        have R9 := R.below Z BW
        have B9 : Below b w w2 := B.trans (BW.mono (Nat.le_of_lt Z))
        have y0 := R9.at_ 0 _ rfl
        have y1 := R9.at_ 1 _ rfl
        have f0 := R9.fz 0
        have f1 := R9.fz 1
        clear R B R9 O d0 d1 d2
        go_wp2
        refine bodyPost_ret (v := .agg #[.int .i64 1, .string ⟨#[]⟩]) (by simp [results, Tryd.results5, go_sem, y0, y1]) rfl ?_
        rw [hb]
        exact ⟨ret_two HR.out.1.symm HR.out.2.symm, below2 B9 _ _⟩
      subst hP0
      go_wp2_with fail
      refine (hPx _).mono ?_; rintro e w2 ⟨rfl, b2⟩
      have g2 : g < wr.heap.size := by omega
      have d1' := keepc b2 g2 d1
      clear hPx
      go_wp2_with fail
      refine (hPy _).mono ?_; rintro e w3 ⟨rfl, b3⟩
      have BW : Below wr.heap.size wr w3 := b2.trans (b3.mono b2.size)
      have z3 := BW.size
      clear hPy b2 b3 d1'
      by_cases hQ0 : Q = 0
      rotate_left
      · have HR := bad 1 (e2 hQ0) (by decide)
        have q1 : (Q != 0) = true := by simpa using hQ0
        clear bad good e1 e2 e3 e4 p1 p2 hIn eL eN hzb hT
        have R9 := R.below Z BW
        have B9 : Below b w w3 := B.trans (BW.mono (Nat.le_of_lt Z))
        have y0 := R9.at_ 0 _ rfl
        have y1 := R9.at_ 1 _ rfl
        have f0 := R9.fz 0
        have f1 := R9.fz 1
        clear R B R9 O d0 d1 d2
        go_wp2
        refine bodyPost_ret (v := .agg #[.int .i64 1, .string ⟨#[]⟩]) (by simp [results, Tryd.results5, go_sem, y0, y1]) rfl ?_
        rw [hb]
        exact ⟨ret_two HR.out.1.symm HR.out.2.symm, below2 B9 _ _⟩
      subst hQ0
      have c0 := keepc BW g2 d0
      have c1 := keepc BW g2 d1
      have c2 := keepc BW g2 d2
      cases I with
      | false =>
        have HR := bad 3 (e3 (by simp) (by simp) (by simp)) (by decide)
        clear bad good e1 e2 e3 e4 p1 p2 eL eN hzb hT
        go_wp2_with fail
        refine (hIn _).mono ?_; rintro e w4 ⟨rfl, rfl⟩
        clear hIn
        have R9 := R.below Z BW
        have B9 : Below b w w4 := B.trans (BW.mono (Nat.le_of_lt Z))
        have y0 := R9.at_ 0 _ rfl
        have y1 := R9.at_ 1 _ rfl
        have f0 := R9.fz 0
        have f1 := R9.fz 1
        clear R B R9 O d0 d1 d2
        go_wp2
        refine bodyPost_ret (v := .agg #[.int .i64 3, .string ⟨#[]⟩]) (by simp [results, Tryd.results5, go_sem, y0, y1]) rfl ?_
        rw [hb]
        exact ⟨ret_two HR.out.1.symm HR.out.2.symm, below2 B9 _ _⟩
      | true =>
      have HG := good (e4 (by simp) (by simp) (by simp))
      obtain ⟨zb1, zb2⟩ := hzb rfl
      have hN := eN (by simp)
      obtain ⟨m, hm1, hm2⟩ := dec_it zb1
      have hD := fun w => l3Digits m m (Nat.le_refl _) (by omega) w
      rw [hm2, ← hm1] at hD
      have HLn : Hid ((⟨(mtL (l.take (k + 1))).toArray⟩ : ByteArray) = ((((((⟨(mtL (l.take k)).toArray⟩ : ByteArray) ++ x) ++ ⟨#[32, 45, 62, 32]⟩) ++ y) ++ ⟨#[32]⟩) ++ itB z) ++ ⟨#[10]⟩) := by show _ = _; rw [eL, ← line_eq]
      have HT1 : Hid ((mtL (l.take (k + 1))).length ≤ (k + 1) * 4000000) := by
        show _ ≤ _
        rw [eL, List.length_append]
        omega
      have hTs : (⟨(mtL (l.take k)).toArray⟩ : ByteArray).size ≤ 240000000 := by
        show (mtL (l.take k)).toArray.size ≤ _
        rw [List.size_toArray]
        omega
      have hIz := it_size zb1 (by omega)
      obtain ⟨TT, hTT⟩ : ∃ T, (⟨(mtL (l.take k)).toArray⟩ : ByteArray) = T := ⟨_, rfl⟩
      rw [hTT] at HLn hTs ⊢
      obtain ⟨ZZ, hZZ⟩ : ∃ Z, itB z = Z := ⟨_, rfl⟩
      rw [hZZ] at HLn hIz
      simp only [hZZ] at hD
      have R3 := R.below Z BW
      have O3 := O.below BW
      have B3 : Below b w w3 := B.trans (BW.mono (Nat.le_of_lt Z))
      have Z3 : b < w3.heap.size := by omega
      have g3 : g < w3.heap.size := by omega
      have s1 : ¬ 9223372036854775807 < TT.size + x.size := by omega
      have s2 : ¬ 9223372036854775807 < TT.size + x.size + 4 := by omega
      have s3 : ¬ 9223372036854775807 < TT.size + x.size + 4 + y.size := by omega
      have s4 : ¬ 9223372036854775807 < TT.size + x.size + 4 + y.size + 1 := by omega
      have s5 : ¬ 9223372036854775807 < TT.size + x.size + 4 + y.size + 1 + ZZ.size := by omega
      have s6 : ¬ 9223372036854775807 < TT.size + x.size + 4 + y.size + 1 + ZZ.size + 1 := by omega
      clear bad good e1 e2 e3 e4 p1 p2 eL eN hzb hT hm1 hm2 hTT hZZ R O B BW d0 d1 d2 Z z3 g2 hg
      go_wp2_with fail
      refine (hIn _).mono ?_; rintro e w4 ⟨rfl, rfl⟩
      clear hIn
      go_wp2_with fail
      refine wp_region_held_drew (S := fun u => u.cell? ⟨g, off + k * 3, none⟩ = some (.string x) ∧ u.cell? ⟨g, off + k * 3 + 1, none⟩ = some (.string y) ∧ u.cell? ⟨g, off + k * 3 + 2, none⟩ = some (.int .i64 z)) (by kernel_rfl) ⟨c0, c1, c2⟩ (fun hHeld => ?_)
      refine takeD (i := 0) (d := 40) (oi := _) (v := ?_) (listed' := #[true, false, false, false, false, false, false, false, false, false, false, false, false, false, false, false, false, false, false, false, false, false, false, false]) rfl (by kernel_rfl) (by kernel_rfl) (by kernel_rfl) (fun _ _ _ h => h) (Or.inl ⟨by rfl, ?_⟩) hHeld (by kernel_rfl) (by kernel_rfl) ?_
      rotate_left
      · intro w hSw
        try dsimp only at hSw
        first
          | (go_simp; done)
          | (go_simp; with_reducible rfl)
      simp only [Act.put, List.setIfInBounds_toArray, List.set_cons_zero, List.set_cons_succ]
      refine takeD (i := 1) (d := 41) (oi := _) (v := ?_) (listed' := #[true, true, false, false, false, false, false, false, false, false, false, false, false, false, false, false, false, false, false, false, false, false, false, false]) rfl (by kernel_rfl) (by kernel_rfl) (by kernel_rfl) (fun _ _ _ h => h) (Or.inl ⟨by rfl, ?_⟩) hHeld (by kernel_rfl) (by kernel_rfl) ?_
      rotate_left
      · intro w hSw
        try dsimp only at hSw
        first
          | (go_simp; done)
          | (go_simp; with_reducible rfl)
      simp only [Act.put, List.setIfInBounds_toArray, List.set_cons_zero, List.set_cons_succ]
      refine takeD (i := 2) (d := 42) (oi := _) (v := ?_) (listed' := #[true, true, true, false, false, false, false, false, false, false, false, false, false, false, false, false, false, false, false, false, false, false, false, false]) rfl (by kernel_rfl) (by kernel_rfl) (by kernel_rfl) (fun _ _ _ h => h) (Or.inl ⟨by rfl, ?_⟩) hHeld (by kernel_rfl) (by kernel_rfl) ?_
      rotate_left
      · intro w hSw
        try dsimp only at hSw
        first
          | (go_simp; done)
          | (go_simp; with_reducible rfl)
      simp only [Act.put, List.setIfInBounds_toArray, List.set_cons_zero, List.set_cons_succ]
      refine takeD (i := 3) (d := 43) (oi := _) (v := ?_) (listed' := #[true, true, true, true, false, false, false, false, false, false, false, false, false, false, false, false, false, false, false, false, false, false, false, false]) rfl (by kernel_rfl) (by kernel_rfl) (by kernel_rfl) (fun _ _ _ h => h) (Or.inl ⟨by rfl, ?_⟩) hHeld (by kernel_rfl) (by kernel_rfl) ?_
      rotate_left
      · intro w hSw
        try dsimp only at hSw
        first
          | (go_simp; done)
          | (go_simp; with_reducible rfl)
      simp only [Act.put, List.setIfInBounds_toArray, List.set_cons_zero, List.set_cons_succ]
      refine takeD (i := 4) (d := 44) (oi := _) (v := ?_) (listed' := #[true, true, true, true, true, false, false, false, false, false, false, false, false, false, false, false, false, false, false, false, false, false, false, false]) rfl (by kernel_rfl) (by kernel_rfl) (by kernel_rfl) (fun _ _ _ h => h) (Or.inl ⟨by rfl, ?_⟩) hHeld (by kernel_rfl) (by kernel_rfl) ?_
      rotate_left
      · intro w hSw
        try dsimp only at hSw
        first
          | (go_simp; done)
          | (go_simp; with_reducible rfl)
      simp only [Act.put, List.setIfInBounds_toArray, List.set_cons_zero, List.set_cons_succ]
      refine takeD (i := 5) (d := 45) (oi := _) (v := ?_) (listed' := #[true, true, true, true, true, true, false, false, false, false, false, false, false, false, false, false, false, false, false, false, false, false, false, false]) rfl (by kernel_rfl) (by kernel_rfl) (by kernel_rfl) (fun _ _ _ h => h) (Or.inl ⟨by rfl, ?_⟩) hHeld (by kernel_rfl) (by kernel_rfl) ?_
      rotate_left
      · intro w hSw
        try dsimp only at hSw
        first
          | (go_simp; done)
          | (go_simp; with_reducible rfl)
      simp only [Act.put, List.setIfInBounds_toArray, List.set_cons_zero, List.set_cons_succ]
      refine takeD (i := 6) (d := 46) (oi := _) (v := ?_) (listed' := #[true, true, true, true, true, true, true, false, false, false, false, false, false, false, false, false, false, false, false, false, false, false, false, false]) rfl (by kernel_rfl) (by kernel_rfl) (by kernel_rfl) (fun _ _ _ h => h) (Or.inl ⟨by rfl, ?_⟩) hHeld (by kernel_rfl) (by kernel_rfl) ?_
      rotate_left
      · intro w hSw
        try dsimp only at hSw
        first
          | (go_simp; done)
          | (go_simp; with_reducible rfl)
      simp only [Act.put, List.setIfInBounds_toArray, List.set_cons_zero, List.set_cons_succ]
      refine takeD (i := 7) (d := 47) (oi := _) (v := ?_) (listed' := #[true, true, true, true, true, true, true, true, false, false, false, false, false, false, false, false, false, false, false, false, false, false, false, false]) rfl (by kernel_rfl) (by kernel_rfl) (by kernel_rfl) (fun _ _ _ h => h) (Or.inl ⟨by rfl, ?_⟩) hHeld (by kernel_rfl) (by kernel_rfl) ?_
      rotate_left
      · intro w hSw
        try dsimp only at hSw
        first
          | (go_simp; done)
          | (go_simp; with_reducible rfl)
      simp only [Act.put, List.setIfInBounds_toArray, List.set_cons_zero, List.set_cons_succ]
      refine takeD (i := 8) (d := 48) (oi := _) (v := ?_) (listed' := #[true, true, true, true, true, true, true, true, true, false, false, false, false, false, false, false, false, false, false, false, false, false, false, false]) rfl (by kernel_rfl) (by kernel_rfl) (by kernel_rfl) (fun _ _ _ h => h) (Or.inl ⟨by rfl, ?_⟩) hHeld (by kernel_rfl) (by kernel_rfl) ?_
      rotate_left
      · intro w hSw
        try dsimp only at hSw
        first
          | (go_simp; done)
          | (go_simp; with_reducible rfl)
      simp only [Act.put, List.setIfInBounds_toArray, List.set_cons_zero, List.set_cons_succ]
      refine takeD (i := 9) (d := 49) (oi := _) (v := ?_) (listed' := #[true, true, true, true, true, true, true, true, true, true, false, false, false, false, false, false, false, false, false, false, false, false, false, false]) rfl (by kernel_rfl) (by kernel_rfl) (by kernel_rfl) (fun _ _ _ h => h) (Or.inl ⟨by rfl, ?_⟩) hHeld (by kernel_rfl) (by kernel_rfl) ?_
      rotate_left
      · intro w hSw
        try dsimp only at hSw
        first
          | (go_simp; done)
          | (go_simp; with_reducible rfl)
      simp only [Act.put, List.setIfInBounds_toArray, List.set_cons_zero, List.set_cons_succ]
      refine takeD (i := 10) (d := 50) (oi := _) (v := ?_) (listed' := #[true, true, true, true, true, true, true, true, true, true, true, false, false, false, false, false, false, false, false, false, false, false, false, false]) rfl (by kernel_rfl) (by kernel_rfl) (by kernel_rfl) (fun _ _ _ h => h) (Or.inl ⟨by rfl, ?_⟩) hHeld (by kernel_rfl) (by kernel_rfl) ?_
      rotate_left
      · intro w hSw
        try dsimp only at hSw
        first
          | (go_simp; done)
          | (go_simp; with_reducible rfl)
      simp only [Act.put, List.setIfInBounds_toArray, List.set_cons_zero, List.set_cons_succ]
      refine takeD (i := 11) (d := 51) (oi := _) (v := ?_) (listed' := #[true, true, true, true, true, true, true, true, true, true, true, true, false, false, false, false, false, false, false, false, false, false, false, false]) rfl (by kernel_rfl) (by kernel_rfl) (by kernel_rfl) (fun _ _ _ h => h) (Or.inl ⟨by rfl, ?_⟩) hHeld (by kernel_rfl) (by kernel_rfl) ?_
      rotate_left
      · intro w hSw
        try dsimp only at hSw
        first
          | (go_simp; done)
          | (go_simp; with_reducible rfl)
      simp only [Act.put, List.setIfInBounds_toArray, List.set_cons_zero, List.set_cons_succ]
      refine takeD (i := 12) (d := 52) (oi := _) (v := ?_) (listed' := #[true, true, true, true, true, true, true, true, true, true, true, true, true, false, false, false, false, false, false, false, false, false, false, false]) rfl (by kernel_rfl) (by kernel_rfl) (by kernel_rfl) (fun _ _ _ h => h) (Or.inl ⟨by rfl, ?_⟩) hHeld (by kernel_rfl) (by kernel_rfl) ?_
      rotate_left
      · intro w hSw
        try dsimp only at hSw
        first
          | (go_simp; done)
          | (go_simp; with_reducible rfl)
      simp only [Act.put, List.setIfInBounds_toArray, List.set_cons_zero, List.set_cons_succ]
      refine takeD (i := 13) (d := 53) (oi := _) (v := ?_) (listed' := #[true, true, true, true, true, true, true, true, true, true, true, true, true, true, false, false, false, false, false, false, false, false, false, false]) rfl (by kernel_rfl) (by kernel_rfl) (by kernel_rfl) (fun _ _ _ h => h) (Or.inl ⟨by rfl, ?_⟩) hHeld (by kernel_rfl) (by kernel_rfl) ?_
      rotate_left
      · intro w hSw
        try dsimp only at hSw
        first
          | (go_simp; done)
          | (go_simp; with_reducible rfl)
      simp only [Act.put, List.setIfInBounds_toArray, List.set_cons_zero, List.set_cons_succ]
      refine takeD (i := 14) (d := 54) (oi := _) (v := ?_) (listed' := #[true, true, true, true, true, true, true, true, true, true, true, true, true, true, true, false, false, false, false, false, false, false, false, false]) rfl (by kernel_rfl) (by kernel_rfl) (by kernel_rfl) (fun _ _ _ h => h) (Or.inl ⟨by rfl, ?_⟩) hHeld (by kernel_rfl) (by kernel_rfl) ?_
      rotate_left
      · intro w hSw
        try dsimp only at hSw
        first
          | (go_simp; done)
          | (go_simp; with_reducible rfl)
      simp only [Act.put, List.setIfInBounds_toArray, List.set_cons_zero, List.set_cons_succ]
      refine takeD (i := 15) (d := 55) (oi := _) (v := ?_) (listed' := #[true, true, true, true, true, true, true, true, true, true, true, true, true, true, true, true, false, false, false, false, false, false, false, false]) rfl (by kernel_rfl) (by kernel_rfl) (by kernel_rfl) (fun _ _ _ h => h) (Or.inl ⟨by rfl, ?_⟩) hHeld (by kernel_rfl) (by kernel_rfl) ?_
      rotate_left
      · intro w hSw
        try dsimp only at hSw
        first
          | (go_simp; done)
          | (go_simp; with_reducible rfl)
      simp only [Act.put, List.setIfInBounds_toArray, List.set_cons_zero, List.set_cons_succ]
      refine takeD (i := 16) (d := 56) (oi := _) (v := ?_) (listed' := #[true, true, true, true, true, true, true, true, true, true, true, true, true, true, true, true, true, false, false, false, false, false, false, false]) rfl (by kernel_rfl) (by kernel_rfl) (by kernel_rfl) (fun _ _ _ h => h) (Or.inl ⟨by rfl, ?_⟩) hHeld (by kernel_rfl) (by kernel_rfl) ?_
      rotate_left
      · intro w hSw
        try dsimp only at hSw
        first
          | (go_simp; done)
          | (go_simp; with_reducible rfl)
      simp only [Act.put, List.setIfInBounds_toArray, List.set_cons_zero, List.set_cons_succ]
      refine takeD (i := 17) (d := 57) (oi := _) (v := ?_) (listed' := #[true, true, true, true, true, true, true, true, true, true, true, true, true, true, true, true, true, true, false, false, false, false, false, false]) rfl (by kernel_rfl) (by kernel_rfl) (by kernel_rfl) (fun _ _ _ h => h) (Or.inl ⟨by rfl, ?_⟩) hHeld (by kernel_rfl) (by kernel_rfl) ?_
      rotate_left
      · intro w hSw
        try dsimp only at hSw
        first
          | (go_simp; done)
          | (go_simp; with_reducible rfl)
      simp only [Act.put, List.setIfInBounds_toArray, List.set_cons_zero, List.set_cons_succ]
      refine takeD (i := 18) (d := 58) (oi := _) (v := ?_) (listed' := #[true, true, true, true, true, true, true, true, true, true, true, true, true, true, true, true, true, true, true, false, false, false, false, false]) rfl (by kernel_rfl) (by kernel_rfl) (by kernel_rfl) (fun _ _ _ h => h) (Or.inl ⟨by rfl, ?_⟩) hHeld (by kernel_rfl) (by kernel_rfl) ?_
      rotate_left
      · intro w hSw
        try dsimp only at hSw
        first
          | (go_simp; done)
          | (go_simp; with_reducible rfl)
      simp only [Act.put, List.setIfInBounds_toArray, List.set_cons_zero, List.set_cons_succ]
      refine takeD (i := 19) (d := 59) (oi := _) (v := ?_) (listed' := #[true, true, true, true, true, true, true, true, true, true, true, true, true, true, true, true, true, true, true, true, false, false, false, false]) rfl (by kernel_rfl) (by kernel_rfl) (by kernel_rfl) (fun _ _ _ h => h) (Or.inl ⟨by rfl, ?_⟩) hHeld (by kernel_rfl) (by kernel_rfl) ?_
      rotate_left
      · intro w hSw
        try dsimp only at hSw
        first
          | (go_simp; done)
          | (go_simp; with_reducible rfl)
      simp only [Act.put, List.setIfInBounds_toArray, List.set_cons_zero, List.set_cons_succ]
      refine wpAnyH_ready (rs := [20]) (by kernel_rfl) (by simp) ?_
      refine AllReadyH.cons (o := _) rfl (fun K hK => ?_) AllReadyH.nil
      go_simp
      refine (hD _).mono ?_
      rintro e w5 ⟨rfl, b5⟩
      have BV : Below w4.heap.size w4 w5 := (below_drew (Below.refl _ w4)).trans b5
      have R5 := R3.below Z3 BV
      have O5 := O3.below BV
      have B5 : Below b w w5 := B3.trans (BV.mono (Nat.le_of_lt Z3))
      have Z5 : b < w5.heap.size := Nat.lt_of_lt_of_le Z3 BV.size
      refine hK.out _ _ ⟨keepc BV g3 c0, keepc BV g3 c1, keepc BV g3 c2⟩ (fun hS1 => ?_)
      clear hK K hD b5 BV R3 O3 B3 hHeld c0 c1 c2
      simp only [List.setIfInBounds_toArray, List.set_cons_zero, List.set_cons_succ]
      refine takeD (i := 21) (d := 61) (oi := _) (v := ?_) (listed' := #[true, true, true, true, true, true, true, true, true, true, true, true, true, true, true, true, true, true, true, true, true, true, false, false]) rfl (by kernel_rfl) (by kernel_rfl) (by kernel_rfl) (fun _ _ _ h => h) (Or.inl ⟨by rfl, ?_⟩) hS1 (by kernel_rfl) (by kernel_rfl) ?_
      rotate_left
      · intro w hSw
        try dsimp only at hSw
        first
          | (go_simp; done)
          | (go_simp; with_reducible rfl)
      simp only [Act.put, List.setIfInBounds_toArray, List.set_cons_zero, List.set_cons_succ]
      refine takeD (i := 22) (d := 62) (oi := _) (v := ?_) (listed' := #[true, true, true, true, true, true, true, true, true, true, true, true, true, true, true, true, true, true, true, true, true, true, true, false]) rfl (by kernel_rfl) (by kernel_rfl) (by kernel_rfl) (fun _ _ _ h => h) (Or.inl ⟨by rfl, ?_⟩) hS1 (by kernel_rfl) (by kernel_rfl) ?_
      rotate_left
      · intro w hSw
        try dsimp only at hSw
        first
          | (go_simp; done)
          | (go_simp; with_reducible rfl)
      simp only [Act.put, List.setIfInBounds_toArray, List.set_cons_zero, List.set_cons_succ]
      refine takeD (i := 23) (d := 3) (oi := _) (v := ?_) (listed' := #[true, true, true, true, true, true, true, true, true, true, true, true, true, true, true, true, true, true, true, true, true, true, true, true]) rfl (by kernel_rfl) (by kernel_rfl) (by kernel_rfl) (fun _ _ _ h => h) (Or.inl ⟨by rfl, ?_⟩) hS1 (by kernel_rfl) (by kernel_rfl) ?_
      rotate_left
      · intro w hSw
        try dsimp only at hSw
        first
          | (go_simp; done)
          | (go_simp; with_reducible rfl)
      simp only [Act.put, List.setIfInBounds_toArray, List.set_cons_zero, List.set_cons_succ]
      refine wpAnyH_done (by kernel_rfl) ?_ _
      clear hS1
      go_wp2
      go_roundw
      case rel => exact ⟨k + 1, by omega, by go_num, by rw [HLn.out], HG, HT1.out, R5, O5, B5, Z5⟩
      case measure => first | (simp [intOf]; omega) | simp [intOf]
    · have qk : ¬ (k : Int) < (l.length : Int) := by omega
      obtain rfl : k = l.length := by omega
      have HR : Hid (mtC l = 0 ∧ mtT l = ⟨(mtL l).toArray⟩) := mt_ok HM.out hG.out
      rw [List.take_length]
      obtain ⟨TT, hTT⟩ : ∃ T, (⟨(mtL l).toArray⟩ : ByteArray) = T := ⟨_, rfl⟩
      rw [hTT] at HR ⊢
      have y0 := R.at_ 0 _ rfl
      have y1 := R.at_ 1 _ rfl
      have f0 := R.fz 0
      have f1 := R.fz 1
      clear R O hG hT hTT
      go_wp2
      refine bodyPost_ret (v := .agg #[.int .i64 0, .string TT]) (by simp [results, Tryd.results5, go_sem, y0, y1]) rfl ?_
      try rw [hb]
      exact ⟨ret_two HR.out.1.symm HR.out.2.symm, below2 B _ _⟩
end Go.Proofs.YtgidcncmicmggaoDoor.Mv
