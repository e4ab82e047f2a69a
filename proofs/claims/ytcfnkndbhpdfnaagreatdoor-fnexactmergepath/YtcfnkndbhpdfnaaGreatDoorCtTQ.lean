/- The contracts of ClashText (the program's and the specification's). No statement is proved here. -/
import Derived.Test.YtcfnkndbhpdfnaaGreatDoorCtLQ
import Derived.Lib.OthersKept
namespace Go.Proofs.YtcfnkndbhpdfnaaGreatDoor
open Go.ChangeShapes Go.WideShapes Go.ChangeAt Go.RowKit
theorem ret_str {a b : ByteArray} (h : a = b) : Ending.returned (.string a) = .returned (.string b) := by rw [h]
def OKs (W : World) (a : Option Addr) (ss : List ByteArray) : Prop := (∀ n, SS (W.drewN n) a ss) /\ ss.length <= 1048576 /\ tot ss <= 1048576 /\ wh ss = true
theorem endedQ (W : World) (ss : List ByteArray) (a : Option Addr) (c n : Nat) (h : OKs W a ss) : Calls Tryz.prog 146 #[.slice a ss.length c] (W.drewN n) fun e w'' => e = .returned (.string ⟨(endAll ss).toArray⟩) /\ ∃ m, w'' = W.drewN m :=
 quietDrew (l4Ended a c ss (W.drewN n) (h.1 n) h.2.1 h.2.2.1 h.2.2.2)
def clashB (b o t : List ByteArray) : ByteArray := ⟨(clashL b o t).toArray⟩
set_option maxRecDepth 20000 in
set_option maxHeartbeats 1000000 in
theorem l4Clash (x0 : Int) (a1 a2 a3 : Option Addr) (c1 c2 c3 : Nat) (x1 x2 x3 : List ByteArray) (w : World) (h1 : SS w a1 x1) (h2 : SS w a2 x2) (h3 : SS w a3 x3) (n1 : x1.length <= 1048576) (n2 : x2.length <= 1048576) (n3 : x3.length <= 1048576)
  (t1 : tot x1 <= 1048576) (t2 : tot x2 <= 1048576) (t3 : tot x3 <= 1048576) (k1 : wh x1 = true) (k2 : wh x2 = true) (k3 : wh x3 = true) :
  Calls Tryz.prog 119 #[.agg #[.int .i64 x0, .slice a1 x1.length c1, .slice a2 x2.length c2, .slice a3 x3.length c3]] w fun e w' => e = .returned (.string (clashB x1 x2 x3)) /\ Below w.heap.size w w' := by
 obtain ⟨W, hW⟩ : ∃ W, w.alloc (.cells #[.int .i64 x0, .slice a1 x1.length c1, .slice a2 x2.length c2, .slice a3 x3.length c3] 162) = W := ⟨_, rfl⟩
 have hR : Rs W w.heap.size [.int .i64 x0, .slice a1 x1.length c1, .slice a2 x2.length c2, .slice a3 x3.length c3] := by rw [<- hW]; exact Rs.new _ _ _
 have bW : Below w.heap.size w W := by rw [<- hW]; exact allocBelow _ _
 have r1 := hR 1 _ rfl
 have r2 := hR 2 _ rfl
 have r3 := hR 3 _ rfl
 have Q1 : OKs W a1 x1 := ⟨fun n => (h1.below bW).drewN n, n1, t1, k1⟩
 have Q2 : OKs W a2 x2 := ⟨fun n => (h2.below bW).drewN n, n2, t2, k2⟩
 have Q3 : OKs W a3 x3 := ⟨fun n => (h3.below bW).drewN n, n3, t3, k3⟩
 have L1 := endAll_le x1
 have L2 := endAll_le x2
 have L3 := endAll_le x3
 have l1 : (endAll x1).length <= 2097152 := by omega
 have l2 : (endAll x2).length <= 2097152 := by omega
 have l3 : (endAll x3).length <= 2097152 := by omega
 clear hR L1 L2 L3 h1 h2 h3 n1 n2 n3 t1 t2 t3 k1 k2 k3
 go_enter Tryz.func119, Tryz.ntmps119
 go_wp2
 go_quiet ((go_at_call 146; exact endedQ W _ _ _ _ (by assumption)))
 go_wp2
 go_ret
 exact ⟨ret_str (by
  apply WideShapes.bytes_inj
  simp [clashB, clashL, h1L, h2L, h3L, h4L, ByteArray.data_append]), below_drewN' bW _⟩
def ctOK (x0 : Int) (x1 x2 x3 : List ByteArray) : Bool := decide (x0 = 4) && (decide (kd x1 x2 x3 = 4) && (wh x1 && (wh x2 && wh x3)))
def ctC (x0 : Int) (x1 x2 x3 : List ByteArray) : Int := if ctOK x0 x1 x2 x3 = true then 0 else 1
def ctT (x0 : Int) (x1 x2 x3 : List ByteArray) : ByteArray := if ctOK x0 x1 x2 x3 = true then clashB x1 x2 x3 else ⟨#[]⟩
theorem ret_text2 {c d : Int} {s t : ByteArray} (h : c = d) (k : s = t) : Ending.returned (.agg #[.int .i64 c, .string s]) = .returned (.agg #[.int .i64 d, .string t]) := by rw [h, k]
end Go.Proofs.YtcfnkndbhpdfnaaGreatDoor
namespace Go.Proofs.YtcfnkndbhpdfnaaGreatDoor
open Go.ChangeShapes Go.WideShapes Go.ChangeAt Go.RowKit
def pts (c : Ck) : List ByteArray := if c.1 = 4 then [clashB c.2.1 c.2.2.1 c.2.2.2] else if c.1 = 2 then c.2.2.2 else c.2.2.1
def ptsA (l : List Ck) : List ByteArray := l.flatMap pts
theorem ptsA_take (l : List Ck) (k : Nat) (h : k < l.length) : ptsA (l.take (k + 1)) = ptsA (l.take k) ++ pts (l.getD k cnil) := by
 unfold ptsA
 rw [List.take_succ_eq_append_getElem h, List.flatMap_append]
 simp [List.getD, h]
theorem putP_app (l : List UInt8) (a b : List ByteArray) : putP l (a ++ b) = putP (putP l a) b := by
 unfold putP; rw [List.foldl_append]
def jnF : List ByteArray -> List UInt8
 | [] => []
 | [s] => s.data.toList
 | s :: t :: r => endL s ++ jnF (t :: r)
theorem putP_jn : ∀ (ss : List ByteArray) (l : List UInt8), (∀ s ∈ ss, s.data.toList ≠ []) -> ss ≠ [] -> putP l ss = closeL l ++ jnF ss := by
 intro ss
 induction ss with
 | nil => intro l _ h; exact absurd rfl h
 | cons s r ih =>
  intro l h _
  cases r with
  | nil => rfl
  | cons t r =>
   have e : putP l (s :: t :: r) = putP (closeL l ++ s.data.toList) (t :: r) := rfl
   rw [e, ih _ (fun x hx => h x (List.mem_cons_of_mem _ hx)) (by simp), closeL_app _ _ (h s (List.mem_cons_self ..)), jnF, List.append_assoc]
theorem putP_join (ss : List ByteArray) (h : ∀ s ∈ ss, s.data.toList ≠ []) : putP [] ss = jnF ss := by
 by_cases e : ss = []
 ·subst e; rfl
 ·rw [putP_jn ss [] h e]
  have : closeL [] = [] := by unfold closeL; rw [if_pos rfl]
  rw [this, List.nil_append]
def jnK (ss : List ByteArray) (k : Nat) : List UInt8 := if k = ss.length then jnF ss else endAll (ss.take k)
theorem jnF_snoc : ∀ (ss : List ByteArray) (s : ByteArray), jnF (ss ++ [s]) = endAll ss ++ s.data.toList := by
 intro ss
 induction ss with
 | nil => intro s; rfl
 | cons a r ih =>
  intro s
  cases r with
  | nil => simp [jnF, endAll]
  | cons b r =>
   have e : (a :: b :: r) ++ [s] = a :: b :: (r ++ [s]) := rfl
   rw [e, jnF]
   have := ih s
   rw [List.cons_append] at this
   rw [this]
   simp [endAll]
theorem jnK_zero (ss : List ByteArray) : jnK ss 0 = [] := by
 unfold jnK
 split
 ·rename_i h
  have e : ss = [] := List.length_eq_zero_iff.1 h.symm
  subst e; rfl
 ·simp [endAll]
theorem jnK_full (ss : List ByteArray) : jnK ss ss.length = jnF ss := if_pos rfl
theorem jnK_mid {ss : List ByteArray} {k : Nat} (h : k + 1 < ss.length) : jnK ss (k + 1) = jnK ss k ++ endL (ss.getD k ByteArray.empty) := by
 unfold jnK
 rw [if_neg (by omega), if_neg (by omega), endAll_take ss k (by omega)]
theorem jnK_last {ss : List ByteArray} {k : Nat} (h : k + 1 = ss.length) : jnK ss (k + 1) = jnK ss k ++ (ss.getD k ByteArray.empty).data.toList := by
 unfold jnK
 rw [if_pos h, if_neg (by omega)]
 have e : ss = ss.take k ++ [ss.getD k ByteArray.empty] := by
  have hk : k < ss.length := by omega
  have h1 := List.take_succ_eq_append_getElem hk
  rw [h, List.take_length] at h1
  rw [List.getD, List.getElem?_eq_getElem hk]
  exact h1
 conv => lhs; rw [e]
 rw [jnF_snoc]
theorem tot_snoc' (t : List ByteArray) (s : ByteArray) : tot (t ++ [s]) = tot t + (s.size : Int) := by
 have h := tot_take (t ++ [s]) t.length (by simp)
 have e1 : (t ++ [s]).take (t.length + 1) = t ++ [s] := List.take_of_length_le (by simp)
 have e2 : (t ++ [s]).take t.length = t := by simp
 have e3 : (t ++ [s]).getD t.length ByteArray.empty = s := by simp [List.getD]
 rw [e1, e2, e3] at h
 exact h
theorem jnK_len (ss : List ByteArray) (k : Nat) : ((jnK ss k).length : Int) <= tot ss + ss.length := by
 have h1 : ∀ n, ((endAll (ss.take n)).length : Int) <= tot (ss.take n) + (ss.take n).length := fun n => endAll_le _
 unfold jnK
 split
 ·cases e : ss with
  | nil => exact Int.le_of_eq rfl
  | cons a r =>
   obtain ⟨t, s, hs⟩ : ∃ t s, a :: r = t ++ [s] := ⟨(a :: r).dropLast, (a :: r).getLast (by simp), (List.dropLast_concat_getLast (by simp)).symm⟩
   rw [hs, jnF_snoc, List.length_append, tot_snoc', List.length_append]
   have := endAll_le t
   have h2 : (s.data.toList.length : Int) = s.size := by rw [Array.length_toList]; rfl
   simp only [List.length_singleton]
   omega
 ·have := h1 k
  have h2 := tot_split ss k
  have h3 := tot_nonneg (ss.drop k)
  have h4 : (ss.take k).length <= ss.length := by rw [List.length_take]; omega
  omega
end Go.Proofs.YtcfnkndbhpdfnaaGreatDoor
namespace Go.Proofs.YtcfnkndbhpdfnaaGreatDoor
open Go.ChangeShapes Go.WideShapes Go.ChangeAt Go.RowKit
set_option maxRecDepth 20000 in
set_option maxHeartbeats 2000000 in
theorem writePart1 (B b : Nat) (l : List UInt8) (a : Option Addr) (c : Nat) (ss : List ByteArray) (w : World) (h : BF B b l w) (hs : SS w a ss) (ho : Hid (ss.length = 1)) (hB : B <= w.heap.size) (hn : ss.length <= 1048576) (hl : (l.length : Int) + tot ss + ss.length <= 1000000000) :
  Calls Tryz.prog 159 #[.pointer (some ⟨b, 0, none⟩), .slice a ss.length c] w fun e w' => e = .returned (.tuple #[]) /\ (BF B b (putP l ss) w' /\ Below B w w') := by
 go_enter Tryz.func159, Tryz.ntmps159
 go_wp2
 go_loopw [8] (fun i wr => ∃ k : Nat, k <= ss.length /\ i = .int .i64 k /\ BF B b (putP l (ss.take k)) wr /\ Below B w wr /\ Hid (k = 0 -> wr = w)) (fun i _ => ss.length - (intOf i).toNat)
 case atStart => exact ⟨0, Nat.zero_le _, rfl, h, Below.refl _ _, fun _ => rfl⟩
 case round =>
  obtain ⟨k, hk, rfl, hbf, hbel, hz⟩ := hrel
  have hsz := hbel.size
  by_cases hlt : k < ss.length
  ·have q : (k : Int) < (ss.length : Int) := by omega
   obtain ⟨b', off, rfl, hb, hc0⟩ := hs.2 k hlt
   have hk0 : k = 0 := by have := ho.out; omega
   have hc : wr.cell? ⟨b', off + k, none⟩ = some (.string (ss.getD k ByteArray.empty)) := by rw [hz.out hk0]; exact hc0
   have Hk0 : Hid (k = 0) := hk0
   clear hk0 hz
   have hT := putP_take l ss k hlt
   have hle := putP_le l (ss.take k)
   have htt := tot_take_le ss (k + 1)
   have hts := tot_take ss k hlt
   have hlk : ((ss.take k).length : Int) <= ss.length := by rw [List.length_take]; omega
   obtain ⟨s, hse⟩ : ∃ s, ss.getD k ByteArray.empty = s := ⟨_, rfl⟩
   rw [hse] at hc hT hts
   obtain ⟨X, hX⟩ : ∃ X, putP l (ss.take k) = X := ⟨_, rfl⟩
   rw [hX] at hT hle hbf
   have hXl : X.length + s.size + 1 <= 1000000001 := by omega
   have hLen := fun W (p : BF B b X W) => bLen B b (Lib.byteCells X) W p
   rw [Lib.byteCells_length] at hLen
   clear hse hX hle htt hts hlk hc0
   by_cases h0 : X = []
   ·subst h0
    have HT : Hid (putP l (ss.take (k + 1)) = [] ++ s.data.toList) := by show _ = _; rw [hT]; rfl
    clear hT
    have hLen0 : ∀ W, BF B b [] W -> Calls Tryz.prog 179 #[.pointer (some ⟨b, 0, none⟩)] W fun e w' => e = .returned (.int .i64 0) /\ w' = W := fun W p => hLen W p
    clear hLen
    go_wp2_with fail
    refine (hLen0 _ hbf).mono ?_; rintro e wr ⟨rfl, rfl⟩
    go_wp2_with fail
    refine (writeStringF B b _ s wr hbf (by rw [Lib.byteCells_length]; simp; omega) (by omega)).mono ?_; rintro e w2 ⟨rfl, h2, b2⟩
    rw [cellsApp, <- HT.out] at h2
    have B2 := hbel.trans b2
    clear hbf b2 hLen0
    go_wp2
    go_roundw
    case rel => exact ⟨k + 1, by omega, by go_num, .inr h2, B2, fun h => absurd h (Nat.succ_ne_zero _)⟩
    case measure => first | (simp [intOf]; omega) | simp [intOf]
   ·have hpos : 0 < X.length := by cases X with | nil => exact absurd rfl h0 | cons => simp
    have hq : (0 : Int) < (X.length : Int) := by omega
    have hXs : (⟨X.toArray⟩ : ByteArray).size = X.length := by simp [ByteArray.size]
    have hHS := fun W => hasSuffix ⟨X.toArray⟩ W (by omega) (by omega)
    have hXd : (⟨X.toArray⟩ : ByteArray).data.toList = X := by simp
    rw [hXd] at hHS
    have hq2 : ((X.length : Int) > 0) := hq
    clear hXs hXd
    go_wp2_with fail
    refine (hLen _ hbf).mono ?_; rintro e wr ⟨rfl, rfl⟩
    obtain ⟨N, hN⟩ : ∃ N : Int, (X.length : Int) = N := ⟨_, rfl⟩
    rw [hN] at hq ⊢
    clear hN hq2 hLen
    go_wp2_with fail
    refine (bString B b X wr hbf (by omega)).mono ?_; rintro e w2 ⟨rfl, h2, b2⟩
    have B2 := hbel.trans b2
    have z2 := b2.size
    clear hbf b2 hbel
    cases he : endsL X with
    | true =>
     rw [he] at hHS
     have HT : Hid (putP l (ss.take (k + 1)) = X ++ s.data.toList) := by
      show _ = _
      rw [hT]; unfold closeL; rw [if_neg h0, if_pos he]
     clear hT he h0
     go_wp2_with fail
     refine (hHS _).mono ?_; rintro e w2 ⟨rfl, rfl⟩
     go_wp2_with fail
     refine (writeStringF B b _ s w2 h2 (by rw [Lib.byteCells_length]; omega) (by omega)).mono ?_; rintro e w3 ⟨rfl, h3, b3⟩
     rw [cellsApp, <- HT.out] at h3
     have B3 := B2.trans b3
     clear h2 b3 B2 hHS
     go_wp2
     go_roundw
     case rel => exact ⟨k + 1, by omega, by go_num, .inr h3, B3, fun h => absurd h (Nat.succ_ne_zero _)⟩
     case measure => first | (simp [intOf]; omega) | simp [intOf]
    | false =>
     rw [he] at hHS
     have HT : Hid (putP l (ss.take (k + 1)) = X ++ [10] ++ s.data.toList) := by
      show _ = _
      rw [hT]; unfold closeL; rw [if_neg h0, if_neg (by rw [he]; decide)]
     clear hT he h0
     go_wp2_with fail
     refine (hHS _).mono ?_; rintro e w2 ⟨rfl, rfl⟩
     go_wp2_with fail
     refine (writeByteF B b _ 10 w2 h2 (by rw [Lib.byteCells_length]; omega) (by omega)).mono ?_; rintro e w3 ⟨rfl, h3, b3⟩
     rw [cellsLF] at h3
     have B3 := B2.trans b3
     have z3 := b3.size
     clear h2 b3 B2 hHS
     go_wp2_with fail
     refine (writeStringF B b _ s w3 (.inr h3) (by rw [Lib.byteCells_length]; simp; omega) (by omega)).mono ?_; rintro e w4 ⟨rfl, h4, b4⟩
     rw [cellsApp, <- HT.out] at h4
     have B4 := B3.trans b4
     clear h3 b4 B3
     go_wp2
     go_roundw
     case rel => exact ⟨k + 1, by omega, by go_num, .inr h4, B4, fun h => absurd h (Nat.succ_ne_zero _)⟩
     case measure => first | (simp [intOf]; omega) | simp [intOf]
  ·have q : ¬ (k : Int) < (ss.length : Int) := by omega
   have e : ss.take k = ss := List.take_of_length_le (by omega)
   rw [e] at hbf
   clear e
   go_wp2
   go_end0
   exact ⟨rfl, hbf, hbel⟩
end Go.Proofs.YtcfnkndbhpdfnaaGreatDoor
namespace Go.Proofs.YtcfnkndbhpdfnaaGreatDoor
open Go.ChangeShapes Go.WideShapes Go.ChangeAt Go.RowKit
theorem Res2.belowAt {w w' : World} {p B : Nat} {u v : Value} (h : Res2 w p u v) (hp : p < B) (hb : Below B w w') : Res2 w' p u v :=
 ⟨(hb.cell (p := ⟨p, 0, none⟩) hp).trans h.c0, (hb.cell (p := ⟨p, 1, none⟩) hp).trans h.c1, (hb.frozen (p := ⟨p, 0, none⟩) hp).trans h.f0, (hb.frozen (p := ⟨p, 1, none⟩) hp).trans h.f1⟩
theorem oneSS (w : World) (s : ByteArray) (t : TypeId) (hs : s.size <= 9223372036854775807) : SS (w.alloc (.cells #[.string s] t)) (some ⟨w.heap.size, 0, none⟩) [s] :=
 ⟨fun k hk => by
  have : k = 0 := by simpa using hk
  subst this
  exact hs, fun k hk => by
  have : k = 0 := by simpa using hk
  subst this
  exact ⟨w.heap.size, 0, rfl, by simp, by simp⟩⟩
theorem BF.alloc {B b : Nat} {l : List UInt8} {w : World} (h : BF B b l w) (o : Obj) : BF B b l (w.alloc o) := Lib.IsBuilderF.alloc h o
theorem writeLit (B b : Nat) (l : List UInt8) (s : ByteArray) (t : TypeId) (w : World) (h : BF B b l w) (hB : B <= w.heap.size) (hs : s.size = 8) (hl : l.length <= 100000000) :
  Calls Tryz.prog 159 #[.pointer (some ⟨b, 0, none⟩), .slice (some ⟨w.heap.size, 0, none⟩) 1 1] (w.alloc (.cells #[.string s] t)) fun e w' => e = .returned (.tuple #[]) /\ (BF B b (closeL l ++ s.data.toList) w' /\ Below B w w') := by
 have ht : tot [s] = 8 := by simp [tot, hs]
 have := writePart1 B b l (some ⟨w.heap.size, 0, none⟩) 1 [s] (w.alloc (.cells #[.string s] t)) (h.alloc _) (oneSS w s t (by omega)) rfl (by simp; omega) (by simp) (by rw [ht]; simp; omega)
 exact this.mono fun e w' ⟨he, hb, hw⟩ => ⟨he, hb, ((Below.refl _ _).alloc hB _).trans hw⟩
set_option maxRecDepth 20000 in
set_option maxHeartbeats 4000000 in
theorem implClashText (x0 : Int) (a1 a2 a3 : Option Addr) (c1 c2 c3 : Nat) (x1 x2 x3 : List ByteArray) (w : World) (h1 : SS w a1 x1) (h2 : SS w a2 x2) (h3 : SS w a3 x3) (n1 : x1.length <= 1048576) (n2 : x2.length <= 1048576) (n3 : x3.length <= 1048576)
  (t1 : tot x1 <= 1048576) (t2 : tot x2 <= 1048576) (t3 : tot x3 <= 1048576) :
  Calls Tryz.prog 160 #[.agg #[.int .i64 x0, .slice a1 x1.length c1, .slice a2 x2.length c2, .slice a3 x3.length c3]] w fun e w' => e = .returned (.agg #[.int .i64 (ctC x0 x1 x2 x3), .string (ctT x0 x1 x2 x3)]) /\ Below w.heap.size w w' := by
 obtain ⟨W0, hW0⟩ : ∃ W, w.alloc (.cells #[.int .i64 x0, .slice a1 x1.length c1, .slice a2 x2.length c2, .slice a3 x3.length c3] 162) = W := ⟨_, rfl⟩
 have hR0 : Rs W0 w.heap.size [.int .i64 x0, .slice a1 x1.length c1, .slice a2 x2.length c2, .slice a3 x3.length c3] := by rw [<- hW0]; exact Rs.new _ _ _
 have b0 : Below w.heap.size w W0 := by rw [<- hW0]; exact allocBelow _ _
 have z0 : w.heap.size < W0.heap.size := by rw [<- hW0]; simp
 obtain ⟨W, hW⟩ : ∃ W, W0.alloc (.cells #[.int .i64 0, .string ⟨#[]⟩] 73) = W := ⟨_, rfl⟩
 have b1 : Below W0.heap.size W0 W := by rw [<- hW]; exact allocBelow _ _
 have hT : Res2 W W0.heap.size (.int .i64 0) (.string ⟨#[]⟩) := by rw [<- hW]; exact Res2.new _ _ _ _
 have zW : W0.heap.size < W.heap.size := by rw [<- hW]; simp
 have hR : Rs W w.heap.size [.int .i64 x0, .slice a1 x1.length c1, .slice a2 x2.length c2, .slice a3 x3.length c3] := fun k v hk => Fr.zcell b1 (hR0 k v hk)
 have bW : Below w.heap.size w W := below_step b0 b0.size b1
 have r0 := hR 0 _ rfl
 have r1 := hR 1 _ rfl
 have r2 := hR 2 _ rfl
 have r3 := hR 3 _ rfl
 have s1 := h1.below bW
 have s2 := h2.below bW
 have s3 := h3.below bW
 obtain ⟨p, hp⟩ : ∃ p, W0.heap.size = p := ⟨_, rfl⟩
 have hpw : w.heap.size < p := by omega
 have hpW : p < W.heap.size := by omega
 rw [hp] at hT
 have hNO : ctOK x0 x1 x2 x3 = false -> Hid (ctC x0 x1 x2 x3 = 1 /\ ctT x0 x1 x2 x3 = ⟨#[]⟩) := fun h => ⟨if_neg (by rw [h]; decide), if_neg (by rw [h]; decide)⟩
 have hYES : ctOK x0 x1 x2 x3 = true -> Hid (ctC x0 x1 x2 x3 = 0 /\ ctT x0 x1 x2 x3 = clashB x1 x2 x3) := fun h => ⟨if_pos h, if_pos h⟩
 obtain ⟨C, hC⟩ : ∃ C, ctC x0 x1 x2 x3 = C := ⟨_, rfl⟩
 obtain ⟨T, hTT⟩ : ∃ T, ctT x0 x1 x2 x3 = T := ⟨_, rfl⟩
 rw [hC, hTT] at hNO hYES ⊢
 have hok : ctOK x0 x1 x2 x3 = (decide (x0 = 4) && (decide (kd x1 x2 x3 = 4) && (wh x1 && (wh x2 && wh x3)))) := rfl
 obtain ⟨OK, hOK⟩ : ∃ O, ctOK x0 x1 x2 x3 = O := ⟨_, rfl⟩
 rw [hOK] at hNO hYES hok
 have hKd := kindOf x0 a1 a2 a3 c1 c2 c3 x1 x2 x3 W s1 s2 s3 n1 n2 n3
 obtain ⟨Kd, hKe⟩ : ∃ K, kd x1 x2 x3 = K := ⟨_, rfl⟩
 rw [hKe] at hKd hok
 have hWh := fun W' (b : Below W.heap.size W W') => hasWholeLines x0 a1 a2 a3 c1 c2 c3 x1 x2 x3 W' (s1.below b) (s2.below b) (s3.below b) n1 n2 n3
 obtain ⟨H, hHe⟩ : ∃ H, (wh x1 && (wh x2 && wh x3)) = H := ⟨_, rfl⟩
 have HHe : Hid ((wh x1 && (wh x2 && wh x3)) = H) := hHe
 rw [hHe] at hWh hok
 clear hC hTT hOK hKe hHe hR hR0 b0 b1 z0 zW h1 h2 h3
 by_cases e0 : x0 = 4
 ·subst e0
  have q0 : ((4 : Int) != 4) = false := by decide
  by_cases e1 : Kd = 4
  ·subst e1
   have hQ : OK = H := by rw [hok]; simp
   clear hok
   go_enter Tryz.func160, Tryz.ntmps160
   go_wp2_with fail
   refine hKd.mono ?_; rintro e w2 ⟨rfl, b2⟩
   replace r0 := Fr.zcell b2 r0
   replace r1 := Fr.zcell b2 r1
   replace r2 := Fr.zcell b2 r2
   replace r3 := Fr.zcell b2 r3
   replace hT := hT.below hpW b2
   have z2 := b2.size
   replace bW := bW.trans (b2.mono (by omega))
   have hW2 := hWh w2 b2
   replace s1 := s1.below b2
   replace s2 := s2.below b2
   replace s3 := s3.below b2
   clear hKd hWh hW hW0 b2 hp
   go_wp2_with fail
   refine hW2.mono ?_; rintro e w3 ⟨rfl, b3⟩
   replace r0 := Fr.zcell b3 r0
   replace r1 := Fr.zcell b3 r1
   replace r2 := Fr.zcell b3 r2
   replace r3 := Fr.zcell b3 r3
   replace hT := hT.below (by omega) b3
   have z3 := b3.size
   replace bW := bW.trans (b3.mono (by omega))
   replace s1 := s1.below b3
   replace s2 := s2.below b3
   replace s3 := s3.below b3
   clear hW2 b3
   cases hH : H with
   | false =>
    have hN := hNO (by rw [hQ, hH])
    have d0 := hT.c0
    have d1 := hT.c1
    have f0 := hT.f0
    have f1 := hT.f1
    have HB : Hid (Below w.heap.size w ((w3.setCell ⟨p, 0, none⟩ (.int .i64 1)).setCell ⟨p, 1, none⟩ (.string ⟨#[]⟩))) := below_sets bW (by omega) _ _
    clear hYES hNO hQ s1 s2 s3 bW hT
    go_wp2
    refine bodyPost_ret (v := .agg #[.int .i64 1, .string ⟨#[]⟩]) (by simp [results, Tryz.results160, go_sem, d0, d1]) rfl ?_
    exact ⟨ret_text2 hN.out.1.symm hN.out.2.symm, HB.out⟩
   | true =>
    have hY := hYES (by rw [hQ, hH])
    have hw := HHe.out
    rw [hH] at hw
    have w1 : wh x1 = true := by cases e : wh x1 <;> simp_all
    have w2' : wh x2 = true := by cases e : wh x2 <;> simp_all
    have w3' : wh x3 = true := by cases e : wh x3 <;> simp_all
    have hM : Hid (_ = _) := clash_made w1 w2' w3'
    have hBF : BF w3.heap.size w3.heap.size [] (w3.alloc (.cells #[.pointer none, .slice none 0 0] 203)) := Lib.IsBuilderF.of (Lib.fresh_isBuilder 203 5 w3)
    obtain ⟨W4, hW4⟩ : ∃ W, w3.alloc (.cells #[.pointer none, .slice none 0 0] 203) = W := ⟨_, rfl⟩
    have b4 : Below w3.heap.size w3 W4 := by rw [<- hW4]; exact allocBelow _ _
    have z4 : w3.heap.size < W4.heap.size := by rw [<- hW4]; simp
    rw [hW4] at hBF
    have y1 : SSB w3.heap.size w3 a1 x1 := s1.toB
    have y2 : SSB w3.heap.size w3 a2 x2 := s2.toB
    have y3 : SSB w3.heap.size w3 a3 x3 := s3.toB
    have m0 := tot_nonneg x1
    have m2 := tot_nonneg x2
    have m3 := tot_nonneg x3
    obtain ⟨B, hBe⟩ : ∃ B, w3.heap.size = B := ⟨_, rfl⟩
    clear hYES hNO hQ w1 w2' w3' hw HHe s1 s2 s3 hH
    rw [hBe] at hBF y1 y2 y3 z4 b4
    have b4' : Below B w3 W4 := b4
    have pB : p < B := by omega
    have wB : w.heap.size < B := by omega
    have hT4 := hT.belowAt (p := p) (B := B) (by omega) b4'
    have L0 : ([] : List UInt8).length <= 0 := by simp
    have R1 := (b4'.cell (p := ⟨w.heap.size, 1, none⟩) (show w.heap.size < B by omega)).trans r1
    have R2 := (b4'.cell (p := ⟨w.heap.size, 2, none⟩) (show w.heap.size < B by omega)).trans r2
    have R3 := (b4'.cell (p := ⟨w.heap.size, 3, none⟩) (show w.heap.size < B by omega)).trans r3
    replace y1 : SSB B W4 a1 x1 := ⟨y1.1, fun k hk => by obtain ⟨b', off, e, hb, hc⟩ := y1.2 k hk; exact ⟨b', off, e, hb, (b4'.cell (p := ⟨b', off + k, none⟩) hb).trans hc⟩⟩
    replace y2 : SSB B W4 a2 x2 := ⟨y2.1, fun k hk => by obtain ⟨b', off, e, hb, hc⟩ := y2.2 k hk; exact ⟨b', off, e, hb, (b4'.cell (p := ⟨b', off + k, none⟩) hb).trans hc⟩⟩
    replace y3 : SSB B W4 a3 x3 := ⟨y3.1, fun k hk => by obtain ⟨b', off, e, hb, hc⟩ := y3.2 k hk; exact ⟨b', off, e, hb, (b4'.cell (p := ⟨b', off + k, none⟩) hb).trans hc⟩⟩
    have BB : Below B w3 W4 := b4'
    clear r0 r1 r2 r3 b4 b4' hT
    go_wp2_with fail
    refine (writeLit B B [] ⟨#[60, 60, 60, 60, 60, 60, 60, 10]⟩ _ _ hBF (by omega) rfl (by omega)).mono ?_; rintro e u1 ⟨rfl, F1, c1'⟩
    have E1 : closeL [] ++ (⟨#[60, 60, 60, 60, 60, 60, 60, 10]⟩ : ByteArray).data.toList = closeL [] ++ h1L := rfl
    rw [E1] at F1
    have L1 : (closeL [] ++ h1L).length <= ([] : List UInt8).length + 9 := by have := closeL_le ([] : List UInt8); rw [List.length_append]; have : h1L.length = 8 := rfl; omega
    obtain ⟨X1, hX1⟩ : ∃ X, closeL [] ++ h1L = X := ⟨_, rfl⟩
    rw [hX1] at F1 L1 hM
    clear E1 hX1
    replace BB := BB.trans c1'
    have S1 := c1'.size
    clear hW4 hBe
    replace hT4 := hT4.belowAt (B := B) (by omega) c1'
    replace R1 := (c1'.cell (p := ⟨w.heap.size, 1, none⟩) (show w.heap.size < B by omega)).trans R1
    replace R2 := (c1'.cell (p := ⟨w.heap.size, 2, none⟩) (show w.heap.size < B by omega)).trans R2
    replace R3 := (c1'.cell (p := ⟨w.heap.size, 3, none⟩) (show w.heap.size < B by omega)).trans R3
    replace y1 : SSB B u1 a1 x1 := ⟨y1.1, fun k hk => by obtain ⟨b', off, e, hb, hc⟩ := y1.2 k hk; exact ⟨b', off, e, hb, (c1'.cell (p := ⟨b', off + k, none⟩) hb).trans hc⟩⟩
    replace y2 : SSB B u1 a2 x2 := ⟨y2.1, fun k hk => by obtain ⟨b', off, e, hb, hc⟩ := y2.2 k hk; exact ⟨b', off, e, hb, (c1'.cell (p := ⟨b', off + k, none⟩) hb).trans hc⟩⟩
    replace y3 : SSB B u1 a3 x3 := ⟨y3.1, fun k hk => by obtain ⟨b', off, e, hb, hc⟩ := y3.2 k hk; exact ⟨b', off, e, hb, (c1'.cell (p := ⟨b', off + k, none⟩) hb).trans hc⟩⟩
    replace hBF := F1
    clear F1 c1'
    go_wp2_with fail
    refine (writeParts B B X1 a2 c2 x2 _ hBF y2 (by omega) n2 (by omega)).mono ?_; rintro e u2 ⟨rfl, F2, c2'⟩
    have L2 := putP_le X1 x2
    obtain ⟨X2, hX2⟩ : ∃ X, putP X1 x2 = X := ⟨_, rfl⟩
    rw [hX2] at F2 L2 hM
    clear hX2
    replace BB := BB.trans c2'
    have S2 := c2'.size
    replace hT4 := hT4.belowAt (B := B) (by omega) c2'
    replace R1 := (c2'.cell (p := ⟨w.heap.size, 1, none⟩) (show w.heap.size < B by omega)).trans R1
    replace R2 := (c2'.cell (p := ⟨w.heap.size, 2, none⟩) (show w.heap.size < B by omega)).trans R2
    replace R3 := (c2'.cell (p := ⟨w.heap.size, 3, none⟩) (show w.heap.size < B by omega)).trans R3
    replace y1 : SSB B u2 a1 x1 := ⟨y1.1, fun k hk => by obtain ⟨b', off, e, hb, hc⟩ := y1.2 k hk; exact ⟨b', off, e, hb, (c2'.cell (p := ⟨b', off + k, none⟩) hb).trans hc⟩⟩
    replace y2 : SSB B u2 a2 x2 := ⟨y2.1, fun k hk => by obtain ⟨b', off, e, hb, hc⟩ := y2.2 k hk; exact ⟨b', off, e, hb, (c2'.cell (p := ⟨b', off + k, none⟩) hb).trans hc⟩⟩
    replace y3 : SSB B u2 a3 x3 := ⟨y3.1, fun k hk => by obtain ⟨b', off, e, hb, hc⟩ := y3.2 k hk; exact ⟨b', off, e, hb, (c2'.cell (p := ⟨b', off + k, none⟩) hb).trans hc⟩⟩
    replace hBF := F2
    clear F2 c2'
    go_wp2_with fail
    refine (writeLit B B X2 ⟨#[124, 124, 124, 124, 124, 124, 124, 10]⟩ _ _ hBF (by omega) rfl (by omega)).mono ?_; rintro e u3 ⟨rfl, F3, c3'⟩
    have E3 : closeL X2 ++ (⟨#[124, 124, 124, 124, 124, 124, 124, 10]⟩ : ByteArray).data.toList = closeL X2 ++ h2L := rfl
    rw [E3] at F3
    have L3 : (closeL X2 ++ h2L).length <= X2.length + 9 := by have := closeL_le X2; rw [List.length_append]; have : h2L.length = 8 := rfl; omega
    obtain ⟨X3, hX3⟩ : ∃ X, closeL X2 ++ h2L = X := ⟨_, rfl⟩
    rw [hX3] at F3 L3 hM
    clear E3 hX3
    replace BB := BB.trans c3'
    have S3 := c3'.size
    replace hT4 := hT4.belowAt (B := B) (by omega) c3'
    replace R1 := (c3'.cell (p := ⟨w.heap.size, 1, none⟩) (show w.heap.size < B by omega)).trans R1
    replace R2 := (c3'.cell (p := ⟨w.heap.size, 2, none⟩) (show w.heap.size < B by omega)).trans R2
    replace R3 := (c3'.cell (p := ⟨w.heap.size, 3, none⟩) (show w.heap.size < B by omega)).trans R3
    replace y1 : SSB B u3 a1 x1 := ⟨y1.1, fun k hk => by obtain ⟨b', off, e, hb, hc⟩ := y1.2 k hk; exact ⟨b', off, e, hb, (c3'.cell (p := ⟨b', off + k, none⟩) hb).trans hc⟩⟩
    replace y2 : SSB B u3 a2 x2 := ⟨y2.1, fun k hk => by obtain ⟨b', off, e, hb, hc⟩ := y2.2 k hk; exact ⟨b', off, e, hb, (c3'.cell (p := ⟨b', off + k, none⟩) hb).trans hc⟩⟩
    replace y3 : SSB B u3 a3 x3 := ⟨y3.1, fun k hk => by obtain ⟨b', off, e, hb, hc⟩ := y3.2 k hk; exact ⟨b', off, e, hb, (c3'.cell (p := ⟨b', off + k, none⟩) hb).trans hc⟩⟩
    replace hBF := F3
    clear F3 c3'
    go_wp2_with fail
    refine (writeParts B B X3 a1 c1 x1 _ hBF y1 (by omega) n1 (by omega)).mono ?_; rintro e u4 ⟨rfl, F4, c4'⟩
    have L4 := putP_le X3 x1
    obtain ⟨X4, hX4⟩ : ∃ X, putP X3 x1 = X := ⟨_, rfl⟩
    rw [hX4] at F4 L4 hM
    clear hX4
    replace BB := BB.trans c4'
    have S4 := c4'.size
    replace hT4 := hT4.belowAt (B := B) (by omega) c4'
    replace R1 := (c4'.cell (p := ⟨w.heap.size, 1, none⟩) (show w.heap.size < B by omega)).trans R1
    replace R2 := (c4'.cell (p := ⟨w.heap.size, 2, none⟩) (show w.heap.size < B by omega)).trans R2
    replace R3 := (c4'.cell (p := ⟨w.heap.size, 3, none⟩) (show w.heap.size < B by omega)).trans R3
    replace y1 : SSB B u4 a1 x1 := ⟨y1.1, fun k hk => by obtain ⟨b', off, e, hb, hc⟩ := y1.2 k hk; exact ⟨b', off, e, hb, (c4'.cell (p := ⟨b', off + k, none⟩) hb).trans hc⟩⟩
    replace y2 : SSB B u4 a2 x2 := ⟨y2.1, fun k hk => by obtain ⟨b', off, e, hb, hc⟩ := y2.2 k hk; exact ⟨b', off, e, hb, (c4'.cell (p := ⟨b', off + k, none⟩) hb).trans hc⟩⟩
    replace y3 : SSB B u4 a3 x3 := ⟨y3.1, fun k hk => by obtain ⟨b', off, e, hb, hc⟩ := y3.2 k hk; exact ⟨b', off, e, hb, (c4'.cell (p := ⟨b', off + k, none⟩) hb).trans hc⟩⟩
    replace hBF := F4
    clear F4 c4'
    go_wp2_with fail
    refine (writeLit B B X4 ⟨#[61, 61, 61, 61, 61, 61, 61, 10]⟩ _ _ hBF (by omega) rfl (by omega)).mono ?_; rintro e u5 ⟨rfl, F5, c5'⟩
    have E5 : closeL X4 ++ (⟨#[61, 61, 61, 61, 61, 61, 61, 10]⟩ : ByteArray).data.toList = closeL X4 ++ h3L := rfl
    rw [E5] at F5
    have L5 : (closeL X4 ++ h3L).length <= X4.length + 9 := by have := closeL_le X4; rw [List.length_append]; have : h3L.length = 8 := rfl; omega
    obtain ⟨X5, hX5⟩ : ∃ X, closeL X4 ++ h3L = X := ⟨_, rfl⟩
    rw [hX5] at F5 L5 hM
    clear E5 hX5
    replace BB := BB.trans c5'
    have S5 := c5'.size
    replace hT4 := hT4.belowAt (B := B) (by omega) c5'
    replace R1 := (c5'.cell (p := ⟨w.heap.size, 1, none⟩) (show w.heap.size < B by omega)).trans R1
    replace R2 := (c5'.cell (p := ⟨w.heap.size, 2, none⟩) (show w.heap.size < B by omega)).trans R2
    replace R3 := (c5'.cell (p := ⟨w.heap.size, 3, none⟩) (show w.heap.size < B by omega)).trans R3
    replace y1 : SSB B u5 a1 x1 := ⟨y1.1, fun k hk => by obtain ⟨b', off, e, hb, hc⟩ := y1.2 k hk; exact ⟨b', off, e, hb, (c5'.cell (p := ⟨b', off + k, none⟩) hb).trans hc⟩⟩
    replace y2 : SSB B u5 a2 x2 := ⟨y2.1, fun k hk => by obtain ⟨b', off, e, hb, hc⟩ := y2.2 k hk; exact ⟨b', off, e, hb, (c5'.cell (p := ⟨b', off + k, none⟩) hb).trans hc⟩⟩
    replace y3 : SSB B u5 a3 x3 := ⟨y3.1, fun k hk => by obtain ⟨b', off, e, hb, hc⟩ := y3.2 k hk; exact ⟨b', off, e, hb, (c5'.cell (p := ⟨b', off + k, none⟩) hb).trans hc⟩⟩
    replace hBF := F5
    clear F5 c5'
    go_wp2_with fail
    refine (writeParts B B X5 a3 c3 x3 _ hBF y3 (by omega) n3 (by omega)).mono ?_; rintro e u6 ⟨rfl, F6, c6'⟩
    have L6 := putP_le X5 x3
    obtain ⟨X6, hX6⟩ : ∃ X, putP X5 x3 = X := ⟨_, rfl⟩
    rw [hX6] at F6 L6 hM
    clear hX6
    replace BB := BB.trans c6'
    have S6 := c6'.size
    replace hT4 := hT4.belowAt (B := B) (by omega) c6'
    replace R1 := (c6'.cell (p := ⟨w.heap.size, 1, none⟩) (show w.heap.size < B by omega)).trans R1
    replace R2 := (c6'.cell (p := ⟨w.heap.size, 2, none⟩) (show w.heap.size < B by omega)).trans R2
    replace R3 := (c6'.cell (p := ⟨w.heap.size, 3, none⟩) (show w.heap.size < B by omega)).trans R3
    replace y1 : SSB B u6 a1 x1 := ⟨y1.1, fun k hk => by obtain ⟨b', off, e, hb, hc⟩ := y1.2 k hk; exact ⟨b', off, e, hb, (c6'.cell (p := ⟨b', off + k, none⟩) hb).trans hc⟩⟩
    replace y2 : SSB B u6 a2 x2 := ⟨y2.1, fun k hk => by obtain ⟨b', off, e, hb, hc⟩ := y2.2 k hk; exact ⟨b', off, e, hb, (c6'.cell (p := ⟨b', off + k, none⟩) hb).trans hc⟩⟩
    replace y3 : SSB B u6 a3 x3 := ⟨y3.1, fun k hk => by obtain ⟨b', off, e, hb, hc⟩ := y3.2 k hk; exact ⟨b', off, e, hb, (c6'.cell (p := ⟨b', off + k, none⟩) hb).trans hc⟩⟩
    replace hBF := F6
    clear F6 c6'
    go_wp2_with fail
    refine (writeLit B B X6 ⟨#[62, 62, 62, 62, 62, 62, 62, 10]⟩ _ _ hBF (by omega) rfl (by omega)).mono ?_; rintro e u7 ⟨rfl, F7, c7'⟩
    have E7 : closeL X6 ++ (⟨#[62, 62, 62, 62, 62, 62, 62, 10]⟩ : ByteArray).data.toList = closeL X6 ++ h4L := rfl
    rw [E7] at F7
    have L7 : (closeL X6 ++ h4L).length <= X6.length + 9 := by have := closeL_le X6; rw [List.length_append]; have : h4L.length = 8 := rfl; omega
    obtain ⟨X7, hX7⟩ : ∃ X, closeL X6 ++ h4L = X := ⟨_, rfl⟩
    rw [hX7] at F7 L7 hM
    clear E7 hX7
    replace BB := BB.trans c7'
    have S7 := c7'.size
    replace hT4 := hT4.belowAt (B := B) (by omega) c7'
    replace R1 := (c7'.cell (p := ⟨w.heap.size, 1, none⟩) (show w.heap.size < B by omega)).trans R1
    replace R2 := (c7'.cell (p := ⟨w.heap.size, 2, none⟩) (show w.heap.size < B by omega)).trans R2
    replace R3 := (c7'.cell (p := ⟨w.heap.size, 3, none⟩) (show w.heap.size < B by omega)).trans R3
    replace y1 : SSB B u7 a1 x1 := ⟨y1.1, fun k hk => by obtain ⟨b', off, e, hb, hc⟩ := y1.2 k hk; exact ⟨b', off, e, hb, (c7'.cell (p := ⟨b', off + k, none⟩) hb).trans hc⟩⟩
    replace y2 : SSB B u7 a2 x2 := ⟨y2.1, fun k hk => by obtain ⟨b', off, e, hb, hc⟩ := y2.2 k hk; exact ⟨b', off, e, hb, (c7'.cell (p := ⟨b', off + k, none⟩) hb).trans hc⟩⟩
    replace y3 : SSB B u7 a3 x3 := ⟨y3.1, fun k hk => by obtain ⟨b', off, e, hb, hc⟩ := y3.2 k hk; exact ⟨b', off, e, hb, (c7'.cell (p := ⟨b', off + k, none⟩) hb).trans hc⟩⟩
    replace hBF := F7
    clear F7 c7'
    go_wp2_with fail
    refine (bString B B X7 _ hBF (by omega)).mono ?_; rintro e u8 ⟨rfl, F8, c8'⟩
    replace hT4 := hT4.belowAt (B := B) (by omega) c8'
    replace BB := BB.trans c8'
    have d0 := hT4.c0
    have d1 := hT4.c1
    have f0 := hT4.f0
    have f1 := hT4.f1
    have hE : (⟨X7.toArray⟩ : ByteArray) = clashB x1 x2 x3 := by unfold clashB; rw [<- hM.out]
    rw [hE]
    obtain ⟨XX, hXX⟩ : ∃ X, clashB x1 x2 x3 = X := ⟨_, rfl⟩
    rw [hXX] at hY ⊢
    have HB : Hid (Below w.heap.size w ((u8.setCell ⟨p, 0, none⟩ (.int .i64 0)).setCell ⟨p, 1, none⟩ (.string XX))) := below_sets (bW.trans (BB.mono (by omega))) (by omega) _ _
    clear hE hXX hM hBF y1 y2 y3 R1 R2 R3 BB bW F8 c8' hT4
    go_wp2
    refine bodyPost_ret (v := .agg #[.int .i64 0, .string XX]) (by simp [results, Tryz.results160, go_sem, d0, d1]) rfl ?_
    exact ⟨ret_text2 hY.out.1.symm hY.out.2.symm, HB.out⟩
  ·have hN := hNO (by rw [hok, decide_eq_false e1]; rfl)
   have q1 : (Kd != 4) = true := by simp [e1]
   clear hYES hNO hok hWh s1 s2 s3
   go_enter Tryz.func160, Tryz.ntmps160
   go_wp2_with fail
   refine hKd.mono ?_; rintro e w2 ⟨rfl, b2⟩
   replace hT := hT.below hpW b2
   replace bW := bW.trans (b2.mono (by omega))
   have d0 := hT.c0
   have d1 := hT.c1
   have f0 := hT.f0
   have f1 := hT.f1
   have HB : Hid (Below w.heap.size w ((w2.setCell ⟨p, 0, none⟩ (.int .i64 1)).setCell ⟨p, 1, none⟩ (.string ⟨#[]⟩))) := below_sets bW (by omega) _ _
   clear bW hT b2 hKd
   go_wp2
   refine bodyPost_ret (v := .agg #[.int .i64 1, .string ⟨#[]⟩]) (by simp [results, Tryz.results160, go_sem, d0, d1]) rfl ?_
   exact ⟨ret_text2 hN.out.1.symm hN.out.2.symm, HB.out⟩
 ·have hN := hNO (by rw [hok, decide_eq_false e0]; rfl)
  have q0 : (x0 != 4) = true := by simp [e0]
  have d0 := hT.c0
  have d1 := hT.c1
  have f0 := hT.f0
  have f1 := hT.f1
  have HB : Hid (Below w.heap.size w ((W.setCell ⟨p, 0, none⟩ (.int .i64 1)).setCell ⟨p, 1, none⟩ (.string ⟨#[]⟩))) := below_sets bW (by omega) _ _
  clear hYES hNO hok hKd hWh s1 s2 s3
  go_enter Tryz.func160, Tryz.ntmps160
  go_wp2
  refine bodyPost_ret (v := .agg #[.int .i64 1, .string ⟨#[]⟩]) (by simp [results, Tryz.results160, go_sem, d0, d1]) rfl ?_
  exact ⟨ret_text2 hN.out.1.symm hN.out.2.symm, HB.out⟩
end Go.Proofs.YtcfnkndbhpdfnaaGreatDoor
