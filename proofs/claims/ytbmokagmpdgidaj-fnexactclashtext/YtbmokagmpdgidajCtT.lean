/- The contracts of ClashText (the program's and the specification's). No statement is proved here. -/
import Derived.Test.YtbmokagmpdgidajRows
import Derived.Test.YtbmokagmpdgidajLem
import Derived.Test.YtbmokagmpdgidajStrs
import Derived.Test.YtbmokagmpdgidajLFLem
import Derived.Test.YtbmokagmpdgidajLF
import Derived.Test.YtbmokagmpdgidajDTab
import Derived.Test.YtbmokagmpdgidajOwn
import Derived.Test.YtbmokagmpdgidajFr
import Derived.Test.YtbmokagmpdgidajIn
import Derived.Test.YtbmokagmpdgidajBld
import Derived.Test.YtbmokagmpdgidajBldF
import Derived.Test.YtbmokagmpdgidajHkT
import Derived.Test.YtbmokagmpdgidajCkL
import Derived.Test.YtbmokagmpdgidajCkC
import Derived.Test.YtbmokagmpdgidajCkI
import Derived.Test.YtbmokagmpdgidajCtL
import Derived.Test.YtbmokagmpdgidajCtC
import Derived.Test.YtbmokagmpdgidajCtW
import Derived.WalkKit
import Derived.ProofKit
import Derived.Below
import Derived.WalkSpells
import Derived.Laws.Concat
import Derived.Deep.QuietTactic
import Derived.BigQuiet
namespace Go.Proofs.Ytbmokagmpdgidaj
open Go.ChangeShapes Go.WideShapes Go.ChangeAt Go.RowKit

theorem ret_str {a b : ByteArray} (h : a = b) : Ending.returned (.string a) = .returned (.string b) := by rw [h]
/-- Lines that can be read, and are right by themselves. -/
def OKs (W : World) (a : Option Addr) (ss : List ByteArray) : Prop := (∀ n, SS (W.drewN n) a ss) ∧ ss.length ≤ 1048576 ∧ tot ss ≤ 1048576 ∧ wh ss = true
theorem endedQ (W : World) (ss : List ByteArray) (a : Option Addr) (c n : Nat) (h : OKs W a ss) : Calls Try.prog 88 #[.slice a ss.length c] (W.drewN n) fun e w'' => e = .returned (.string ⟨(endAll ss).toArray⟩) ∧ ∃ m, w'' = W.drewN m :=
  quietDrew (l4Ended a c ss (W.drewN n) (h.1 n) h.2.1 h.2.2.1 h.2.2.2)
def clashB (b o t : List ByteArray) : ByteArray := ⟨(clashL b o t).toArray⟩
set_option maxRecDepth 20000 in
set_option maxHeartbeats 1000000 in
theorem l4Clash (x0 : Int) (a1 a2 a3 : Option Addr) (c1 c2 c3 : Nat) (x1 x2 x3 : List ByteArray) (w : World) (h1 : SS w a1 x1) (h2 : SS w a2 x2) (h3 : SS w a3 x3) (n1 : x1.length ≤ 1048576) (n2 : x2.length ≤ 1048576) (n3 : x3.length ≤ 1048576)
    (t1 : tot x1 ≤ 1048576) (t2 : tot x2 ≤ 1048576) (t3 : tot x3 ≤ 1048576) (k1 : wh x1 = true) (k2 : wh x2 = true) (k3 : wh x3 = true) :
    Calls Try.prog 65 #[.agg #[.int .i64 x0, .slice a1 x1.length c1, .slice a2 x2.length c2, .slice a3 x3.length c3]] w fun e w' => e = .returned (.string (clashB x1 x2 x3)) ∧ Below w.heap.size w w' := by
  obtain ⟨W, hW⟩ : ∃ W, w.alloc (.cells #[.int .i64 x0, .slice a1 x1.length c1, .slice a2 x2.length c2, .slice a3 x3.length c3] 53) = W := ⟨_, rfl⟩
  have hR : Rs W w.heap.size [.int .i64 x0, .slice a1 x1.length c1, .slice a2 x2.length c2, .slice a3 x3.length c3] := by rw [← hW]; exact Rs.new _ _ _
  have bW : Below w.heap.size w W := by rw [← hW]; exact allocBelow _ _
  have r1 := hR 1 _ rfl
  have r2 := hR 2 _ rfl
  have r3 := hR 3 _ rfl
  have Q1 : OKs W a1 x1 := ⟨fun n => (h1.below bW).drewN n, n1, t1, k1⟩
  have Q2 : OKs W a2 x2 := ⟨fun n => (h2.below bW).drewN n, n2, t2, k2⟩
  have Q3 : OKs W a3 x3 := ⟨fun n => (h3.below bW).drewN n, n3, t3, k3⟩
  have L1 := endAll_le x1
  have L2 := endAll_le x2
  have L3 := endAll_le x3
  have l1 : (endAll x1).length ≤ 2097152 := by omega
  have l2 : (endAll x2).length ≤ 2097152 := by omega
  have l3 : (endAll x3).length ≤ 2097152 := by omega
  clear hR L1 L2 L3 h1 h2 h3 n1 n2 n3 t1 t2 t3 k1 k2 k3
  go_enter Try.func65, Try.ntmps65
  go_wp2
  go_quiet ((go_at_call 88; exact endedQ W _ _ _ _ (by assumption)))
  go_wp2
  go_ret
  exact ⟨ret_str (by
    apply WideShapes.bytes_inj
    simp [clashB, clashL, h1L, h2L, h3L, h4L, ByteArray.data_append]), below_drewN' bW _⟩

/-- What ClashText answers. -/
def ctOK (x0 : Int) (x1 x2 x3 : List ByteArray) : Bool := decide (x0 = 4) && (decide (kd x1 x2 x3 = 4) && (wh x1 && (wh x2 && wh x3)))
def ctC (x0 : Int) (x1 x2 x3 : List ByteArray) : Int := if ctOK x0 x1 x2 x3 = true then 0 else 1
def ctT (x0 : Int) (x1 x2 x3 : List ByteArray) : ByteArray := if ctOK x0 x1 x2 x3 = true then clashB x1 x2 x3 else ⟨#[]⟩
def WQ (W : World) (a : Option Addr) (ss : List ByteArray) (b : Bool) : Prop := (∀ n, SS (W.drewN n) a ss) ∧ ss.length ≤ 1048576 ∧ wh ss = b
theorem wholeQ (W : World) (ss : List ByteArray) (a : Option Addr) (c n : Nat) (b : Bool) (h : WQ W a ss b) : Calls Try.prog 64 #[.slice a ss.length c] (W.drewN n) fun e w'' => e = .returned (.bool b) ∧ ∃ m, w'' = W.drewN m := by
  have := quietDrew (l4Whole a c ss (W.drewN n) (h.1 n) h.2.1)
  rw [h.2.2] at this
  exact this
theorem ret_text2 {c d : Int} {s t : ByteArray} (h : c = d) (k : s = t) : Ending.returned (.agg #[.int .i64 c, .string s]) = .returned (.agg #[.int .i64 d, .string t]) := by rw [h, k]
theorem Res2.belowB {W w' : World} {p n : Nat} {u v : Value} (h : Res2 W p u v) (hp : p < W.heap.size) (hb : Below (W.drewN n).heap.size (W.drewN n) w') : Res2 w' p u v := by
  have h1 : Res2 (W.drewN n) p u v := ⟨h.c0, h.c1, h.f0, h.f1⟩
  exact h1.below hp hb
set_option maxRecDepth 20000 in
set_option maxHeartbeats 4000000 in
theorem specClashText (x0 : Int) (a1 a2 a3 : Option Addr) (c1 c2 c3 : Nat) (x1 x2 x3 : List ByteArray) (w : World) (h1 : SS w a1 x1) (h2 : SS w a2 x2) (h3 : SS w a3 x3) (n1 : x1.length ≤ 1048576) (n2 : x2.length ≤ 1048576) (n3 : x3.length ≤ 1048576)
    (t1 : tot x1 ≤ 1048576) (t2 : tot x2 ≤ 1048576) (t3 : tot x3 ≤ 1048576) :
    Calls Try.prog 29 #[.agg #[.int .i64 x0, .slice a1 x1.length c1, .slice a2 x2.length c2, .slice a3 x3.length c3]] w fun e w' => e = .returned (.agg #[.int .i64 (ctC x0 x1 x2 x3), .string (ctT x0 x1 x2 x3)]) ∧ Below w.heap.size w w' := by
  obtain ⟨W0, hW0⟩ : ∃ W, w.alloc (.cells #[.int .i64 x0, .slice a1 x1.length c1, .slice a2 x2.length c2, .slice a3 x3.length c3] 53) = W := ⟨_, rfl⟩
  have hR0 : Rs W0 w.heap.size [.int .i64 x0, .slice a1 x1.length c1, .slice a2 x2.length c2, .slice a3 x3.length c3] := by rw [← hW0]; exact Rs.new _ _ _
  have b0 : Below w.heap.size w W0 := by rw [← hW0]; exact allocBelow _ _
  have z0 : w.heap.size < W0.heap.size := by rw [← hW0]; simp
  obtain ⟨W, hW⟩ : ∃ W, W0.alloc (.cells #[.int .i64 0, .string ⟨#[]⟩] 51) = W := ⟨_, rfl⟩
  have b1 : Below W0.heap.size W0 W := by rw [← hW]; exact allocBelow _ _
  have hT : Res2 W W0.heap.size (.int .i64 0) (.string ⟨#[]⟩) := by rw [← hW]; exact Res2.new _ _ _ _
  have zW : W0.heap.size < W.heap.size := by rw [← hW]; simp
  have hR : Rs W w.heap.size [.int .i64 x0, .slice a1 x1.length c1, .slice a2 x2.length c2, .slice a3 x3.length c3] := fun k v hk => Fr.zcell b1 (hR0 k v hk)
  have bW : Below w.heap.size w W := below_step b0 b0.size b1
  have r0 := hR 0 _ rfl
  have r1 := hR 1 _ rfl
  have r2 := hR 2 _ rfl
  have r3 := hR 3 _ rfl
  have s1 := h1.below bW
  have s2 := h2.below bW
  have s3 := h3.below bW
  have d0 := hT.c0
  have d1 := hT.c1
  have f0 := hT.f0
  have f1 := hT.f1
  obtain ⟨p, hp⟩ : ∃ p, W0.heap.size = p := ⟨_, rfl⟩
  have hpw : w.heap.size < p := by omega
  have hpW : p < W.heap.size := by omega
  have HB1 : ∀ n, Hid (Below w.heap.size w (((W.drewN n).setCell ⟨p, 0, none⟩ (.int .i64 1)).setCell ⟨p, 1, none⟩ (.string ⟨#[]⟩))) := fun n => below_sets (below_drewN' bW n) (by omega) _ _
  rw [hp] at d0 d1 f0 f1
  have hKQ : ∀ n, Calls Try.prog 42 #[.slice a1 x1.length c1, .slice a2 x2.length c2, .slice a3 x3.length c3] (W.drewN n) fun e w' => e = .returned (.int .i64 (kd x1 x2 x3)) ∧ ∃ m, w' = W.drewN m := fun n => quietDrew (l4KindQ a1 a2 a3 c1 c2 c3 x1 x2 x3 (W.drewN n) (s1.drewN n) (s2.drewN n) (s3.drewN n) n1 n2 n3)
  have hNO : ctOK x0 x1 x2 x3 = false → Hid (ctC x0 x1 x2 x3 = 1 ∧ ctT x0 x1 x2 x3 = ⟨#[]⟩) := fun h => ⟨if_neg (by rw [h]; decide), if_neg (by rw [h]; decide)⟩
  have hYES : ctOK x0 x1 x2 x3 = true → Hid (ctC x0 x1 x2 x3 = 0 ∧ ctT x0 x1 x2 x3 = clashB x1 x2 x3) := fun h => ⟨if_pos h, if_pos h⟩
  obtain ⟨C, hC⟩ : ∃ C, ctC x0 x1 x2 x3 = C := ⟨_, rfl⟩
  obtain ⟨T, hTT⟩ : ∃ T, ctT x0 x1 x2 x3 = T := ⟨_, rfl⟩
  rw [hC, hTT] at hNO hYES ⊢
  have hok : ctOK x0 x1 x2 x3 = (decide (x0 = 4) && (decide (kd x1 x2 x3 = 4) && (wh x1 && (wh x2 && wh x3)))) := rfl
  obtain ⟨OK, hOK⟩ : ∃ O, ctOK x0 x1 x2 x3 = O := ⟨_, rfl⟩
  rw [hOK] at hNO hYES hok
  obtain ⟨Kd, hKd⟩ : ∃ K, kd x1 x2 x3 = K := ⟨_, rfl⟩
  rw [hKd] at hKQ hok
  clear hC hTT hOK hKd hR hR0 hT b0 b1 z0 zW
  by_cases e0 : x0 = 4
  · subst e0
    have q0 : ((4 : Int) != 4) = false := by decide
    by_cases e1 : Kd = 4
    · subst e1
      cases w1 : wh x1 with
      | false =>
        have hN := hNO (by rw [hok, w1]; rfl)
        have q1 : WQ W a1 x1 false := ⟨fun n => s1.drewN n, n1, w1⟩
        clear hYES hNO hok s1 s2 s3
        go_enter Try.func29, Try.ntmps29
        go_wp2
        clear hp hW hW0
        go_quiet (first | (go_at_call 42; exact hKQ _) | (go_at_call 64; exact wholeQ W _ _ _ _ _ (by assumption)))
        have HB := HB1 nq
        clear HB1
        go_wp2
        refine bodyPost_ret (v := .agg #[.int .i64 1, .string ⟨#[]⟩]) (by simp [results, Try.results29, go_sem, d0, d1]) rfl ?_
        exact ⟨ret_text2 hN.out.1.symm hN.out.2.symm, HB.out⟩
      | true =>
        cases w2 : wh x2 with
        | false =>
          have hN := hNO (by rw [hok, w1, w2]; rfl)
          have q1 : WQ W a1 x1 true := ⟨fun n => s1.drewN n, n1, w1⟩
          have q2 : WQ W a2 x2 false := ⟨fun n => s2.drewN n, n2, w2⟩
          clear hYES hNO hok s1 s2 s3
          go_enter Try.func29, Try.ntmps29
          go_wp2
          clear hp hW hW0
          go_quiet (first | (go_at_call 42; exact hKQ _) | (go_at_call 64; exact wholeQ W _ _ _ _ _ (by assumption)))
          have HB := HB1 nq
          clear HB1
          go_wp2
          refine bodyPost_ret (v := .agg #[.int .i64 1, .string ⟨#[]⟩]) (by simp [results, Try.results29, go_sem, d0, d1]) rfl ?_
          exact ⟨ret_text2 hN.out.1.symm hN.out.2.symm, HB.out⟩
        | true =>
          cases w3 : wh x3 with
          | false =>
            have hN := hNO (by rw [hok, w1, w2, w3]; rfl)
            have q1 : WQ W a1 x1 true := ⟨fun n => s1.drewN n, n1, w1⟩
            have q2 : WQ W a2 x2 true := ⟨fun n => s2.drewN n, n2, w2⟩
            have q3 : WQ W a3 x3 false := ⟨fun n => s3.drewN n, n3, w3⟩
            clear hYES hNO hok s1 s2 s3
            go_enter Try.func29, Try.ntmps29
            go_wp2
            clear hp hW hW0
            go_quiet (first | (go_at_call 42; exact hKQ _) | (go_at_call 64; exact wholeQ W _ _ _ _ _ (by assumption)))
            have HB := HB1 nq
            clear HB1
            go_wp2
            refine bodyPost_ret (v := .agg #[.int .i64 1, .string ⟨#[]⟩]) (by simp [results, Try.results29, go_sem, d0, d1]) rfl ?_
            exact ⟨ret_text2 hN.out.1.symm hN.out.2.symm, HB.out⟩
          | true =>
            have hY := hYES (by rw [hok, w1, w2, w3]; rfl)
            have q1 : WQ W a1 x1 true := ⟨fun n => s1.drewN n, n1, w1⟩
            have q2 : WQ W a2 x2 true := ⟨fun n => s2.drewN n, n2, w2⟩
            have q3 : WQ W a3 x3 true := ⟨fun n => s3.drewN n, n3, w3⟩
            have hCl := fun n => l4Clash 4 a1 a2 a3 c1 c2 c3 x1 x2 x3 (W.drewN n) (s1.drewN n) (s2.drewN n) (s3.drewN n) n1 n2 n3 t1 t2 t3 w1 w2 w3
            obtain ⟨X, hX⟩ : ∃ X, clashB x1 x2 x3 = X := ⟨_, rfl⟩
            rw [hX] at hCl hY
            have hTR : Res2 W p (.int .i64 0) (.string ⟨#[]⟩) := ⟨d0, d1, f0, f1⟩
            clear hYES hNO hok s1 s2 s3 hX w1 w2 w3
            go_enter Try.func29, Try.ntmps29
            go_wp2
            clear hp hW hW0
            go_quiet (first | (go_at_call 42; exact hKQ _) | (go_at_call 64; exact wholeQ W _ _ _ _ _ (by assumption)))
            have hCn := hCl nq
            clear hCl hKQ q1 q2 q3 d0 d1 f0 f1
            go_wp2_with fail
            refine hCn.mono ?_; rintro e w9 ⟨rfl, b9⟩
            have R9 : Res2 w9 p (.int .i64 0) (.string ⟨#[]⟩) := hTR.belowB hpW b9
            have d0 := R9.c0
            have d1 := R9.c1
            have f0 := R9.f0
            have f1 := R9.f1
            have HB9 : Hid (Below w.heap.size w ((w9.setCell ⟨p, 0, none⟩ (.int .i64 0)).setCell ⟨p, 1, none⟩ (.string X))) := below_sets ((below_drewN' bW nq).trans (b9.mono (by show w.heap.size ≤ W.heap.size; omega))) (by omega) _ _
            clear HB1 hCn b9 R9 hTR
            go_wp2
            refine bodyPost_ret (v := .agg #[.int .i64 0, .string X]) (by simp [results, Try.results29, go_sem, d0, d1]) rfl ?_
            exact ⟨ret_text2 hY.out.1.symm hY.out.2.symm, HB9.out⟩
    · have hN := hNO (by rw [hok, decide_eq_false e1]; rfl)
      have q1 : (Kd != 4) = true := by simp [e1]
      clear hYES hNO hok s1 s2 s3
      go_enter Try.func29, Try.ntmps29
      go_wp2
      clear hp hW hW0
      go_quiet ((go_at_call 42; exact hKQ _))
      have HB := HB1 nq
      clear HB1
      go_wp2
      refine bodyPost_ret (v := .agg #[.int .i64 1, .string ⟨#[]⟩]) (by simp [results, Try.results29, go_sem, d0, d1]) rfl ?_
      exact ⟨ret_text2 hN.out.1.symm hN.out.2.symm, HB.out⟩
  · have hN := hNO (by rw [hok, decide_eq_false e0]; rfl)
    have q0 : (x0 != 4) = true := by simp [e0]
    clear hYES hNO hok hKQ s1 s2 s3
    go_enter Try.func29, Try.ntmps29
    go_wp2
    clear hp hW hW0
    go_quiet (fail)
    have HB := HB1 nq
    clear HB1
    go_wp2
    refine bodyPost_ret (v := .agg #[.int .i64 1, .string ⟨#[]⟩]) (by simp [results, Try.results29, go_sem, d0, d1]) rfl ?_
    exact ⟨ret_text2 hN.out.1.symm hN.out.2.symm, HB.out⟩
end Go.Proofs.Ytbmokagmpdgidaj
