/- The contracts of InDir (the program's and the specification's). No statement is proved here. -/
import Derived.Test.YtcfnkndbhpdfnaaGreatDoorPfCQ
import Derived.Test.YtcfnkndbhpdfnaaGreatDoorFmCQ
namespace Go.Proofs.YtcfnkndbhpdfnaaGreatDoor
open Go.ChangeShapes Go.WideShapes Go.ChangeAt Go.RowKit
def inD (p d : ByteArray) : Bool := decide (d.size + 1 < p.size) && ((p.extract 0 (d.size + 1)).toList == (d ++ (⟨#[47]⟩ : ByteArray)).toList)
theorem inD_short {p d : ByteArray} (h : ¬ d.size + 1 < p.size) : inD p d = false := by
 unfold inD
 rw [decide_eq_false h]; rfl
set_option maxHeartbeats 1000000 in
theorem specInDir (p d : ByteArray) (w : World) (hp : p.size <= 1048576) (hd : d.size <= 1048576) :
  Calls Tryz.prog 43 #[.string p, .string d] w fun e w' => e = .returned (.bool (inD p d)) /\ w' = w := by
 by_cases h : d.size + 1 < p.size
 ·have HR : Hid (inD p d = ((p.extract 0 (d.size + 1)).toList == (d ++ (⟨#[47]⟩ : ByteArray)).toList)) := by show _ = _; unfold inD; rw [decide_eq_true h, Bool.true_and]
  have q : (d.size : Int) + 1 < (p.size : Int) := by omega
  have e2 : (⟨#[47]⟩ : ByteArray).size = 1 := rfl
  go_enter Tryz.func43, Tryz.ntmps43
  go_wp2
  go_ret
  exact ⟨ret_bool HR.out.symm, rfl⟩
 ·have HR : Hid (inD p d = false) := inD_short h
  have q : ¬ (d.size : Int) + 1 < (p.size : Int) := by omega
  go_enter Tryz.func43, Tryz.ntmps43
  go_wp2
  go_ret
  exact ⟨ret_bool HR.out.symm, rfl⟩
end Go.Proofs.YtcfnkndbhpdfnaaGreatDoor
namespace Go.Proofs.YtcfnkndbhpdfnaaGreatDoor.Fl
open Go.ChangeShapes Go.WideShapes Go.ChangeAt Go.RowKit
def leF (a b : ByteArray) : Bool := Op.bytesLess a.toList b.toList || a.toList == b.toList
def fi (x0 : ByteArray) (x1 : Int) (x2 : ByteArray) : Int := if pf x0 = 0 then (if inB x1 1 2 = true then (if isOf 1 x2 = true then 0 else 1) else 3) else pf x0
theorem fi_path {x0 : ByteArray} {x1 : Int} {x2 : ByteArray} (h : ¬ pf x0 = 0) : fi x0 x1 x2 = pf x0 := if_neg h
theorem fi_mode {x0 : ByteArray} {x1 : Int} {x2 : ByteArray} (h : pf x0 = 0) (e : inB x1 1 2 = false) : fi x0 x1 x2 = 3 := by unfold fi; rw [if_pos h, if_neg (by rw [e]; decide)]
theorem fi_id {x0 : ByteArray} {x1 : Int} {x2 : ByteArray} (h : pf x0 = 0) (e : inB x1 1 2 = true) (q : isOf 1 x2 = false) : fi x0 x1 x2 = 1 := by unfold fi; rw [if_pos h, if_pos e, if_neg (by rw [q]; decide)]
theorem fi_ok {x0 : ByteArray} {x1 : Int} {x2 : ByteArray} (h : pf x0 = 0) (e : inB x1 1 2 = true) (q : isOf 1 x2 = true) : fi x0 x1 x2 = 0 := by unfold fi; rw [if_pos h, if_pos e, if_pos q]
theorem inB12 {x1 : Int} (h : inB x1 1 2 = true) : x1 = 1 \/ x1 = 2 := by
 unfold inB at h
 simp at h
 omega
theorem inB12F {x1 : Int} (h : inB x1 1 2 = false) : ¬ x1 = 1 /\ ¬ x1 = 2 := by
 refine ⟨fun e => ?_, fun e => ?_⟩ <;> subst e <;> simp [inB] at h
def fiF (l : List Ob) (k : Nat) : Int :=
 if fi (l.getD k onil).1 (l.getD k onil).2.1 (l.getD k onil).2.2 = 0 then (if 0 < k /\ leF (l.getD k onil).1 (l.getD (k - 1) onil).1 = true then 1 else 0) else fi (l.getD k onil).1 (l.getD k onil).2.1 (l.getD k onil).2.2
def fiE (l : List Ob) : Int := if 60 < l.length then 2 else (((List.range l.length).map (fiF l)).find? (fun x => decide (x ≠ 0))).getD 0
theorem fiE_many {l : List Ob} (h : 60 < l.length) : fiE l = 2 := if_pos h
theorem fiE_bad {l : List Ob} {k : Nat} (h : ¬ 60 < l.length) (hk : k < l.length) (h0 : ∀ j, j < k -> fiF l j = 0) (hb : ¬ fiF l k = 0) : fiE l = fiF l k := by
 unfold fiE
 rw [if_neg h]
 have : ((List.range l.length).map (fiF l)).find? (fun x => decide (x ≠ 0)) = some (fiF l k) := by
  rw [List.find?_eq_some_iff_getElem]
  refine ⟨by simp [hb], k, by simp [hk], by simp, fun j hj => ?_⟩
  simp [h0 j hj]
 rw [this]; rfl
theorem fiE_ok {l : List Ob} (h : ¬ 60 < l.length) (h0 : ∀ j, j < l.length -> fiF l j = 0) : fiE l = 0 := by
 unfold fiE
 rw [if_neg h]
 have : ((List.range l.length).map (fiF l)).find? (fun x => decide (x ≠ 0)) = none := by
  rw [List.find?_eq_none]
  intro x hx
  obtain ⟨j, hj, rfl⟩ := List.mem_map.1 hx
  simp [h0 j (List.mem_range.1 hj)]
 rw [this]; rfl
def tkU (l : List Ob) (p : ByteArray) (n : Nat) : Bool := (List.range n).any (fun k => inD p (l.getD k onil).1)
theorem tkU_zero (l : List Ob) (p : ByteArray) : tkU l p 0 = false := rfl
theorem tkU_succ (l : List Ob) (p : ByteArray) (n : Nat) : tkU l p (n + 1) = (tkU l p n || inD p (l.getD n onil).1) := by unfold tkU; rw [List.range_succ, List.any_append]; simp
theorem tkU_more {l : List Ob} {p : ByteArray} {n m : Nat} (h : tkU l p n = true) (hm : n <= m) : tkU l p m = true := by
 obtain ⟨k, hk, e⟩ := List.any_eq_true.1 h
 exact List.any_eq_true.2 ⟨k, List.mem_range.2 (Nat.lt_of_lt_of_le (List.mem_range.1 hk) hm), e⟩
def tk (l : List Ob) (p : ByteArray) : Bool := tkU l p l.length
def tkA (l : List Ob) (n : Nat) : Bool := (List.range n).any (fun k => tk l (l.getD k onil).1)
theorem tkA_zero (l : List Ob) : tkA l 0 = false := rfl
theorem tkA_succ (l : List Ob) (n : Nat) : tkA l (n + 1) = (tkA l n || tk l (l.getD n onil).1) := by unfold tkA; rw [List.range_succ, List.any_append]; simp
theorem tkA_more {l : List Ob} {n m : Nat} (h : tkA l n = true) (hm : n <= m) : tkA l m = true := by
 obtain ⟨k, hk, e⟩ := List.any_eq_true.1 h
 exact List.any_eq_true.2 ⟨k, List.mem_range.2 (Nat.lt_of_lt_of_le (List.mem_range.1 hk) hm), e⟩
def ffl (l : List Ob) : Int := if fiE l = 0 then (if tkA l l.length = true then 7 else 0) else fiE l
theorem ffl_bad {l : List Ob} (h : ¬ fiE l = 0) : ffl l = fiE l := if_neg h
theorem ffl_taken {l : List Ob} (h : fiE l = 0) (e : tkA l l.length = true) : ffl l = 7 := by unfold ffl; rw [if_pos h, if_pos e]
theorem ffl_ok {l : List Ob} (h : fiE l = 0) (e : tkA l l.length = false) : ffl l = 0 := by unfold ffl; rw [if_pos h, if_neg (by rw [e]; decide)]
set_option maxRecDepth 20000 in
set_option maxHeartbeats 2000000 in
theorem fileFaultC (x0 x2 : ByteArray) (x1 : Int) (w : World) (h0 : x0.size <= 1048576) : Calls Tryz.prog 50 #[.agg #[.string x0, .int .i64 x1, .string x2]] w fun e w' => e = .returned (.int .i64 (fi x0 x1 x2)) /\ Below w.heap.size w w' := by
 have hN := fun w => implPathFault x0 w h0
 have hO := fun w => isIdOf 1 (.inl rfl) x2 w
 obtain ⟨W1, hW1⟩ : ∃ W, w.alloc (.cells #[.string x0, .int .i64 x1, .string x2] 34) = W := ⟨_, rfl⟩
 have b1 : Below w.heap.size w W1 := by rw [<- hW1]; exact allocBelow _ _
 have r1 : Rf W1 w.heap.size [.string x0, .int .i64 x1, .string x2] := by rw [<- hW1]; exact Rf.new _ _ _
 have z1 : w.heap.size < W1.heap.size := by rw [<- hW1]; simp
 have c0 := r1.at_ 0 _ rfl
 have hbad : ¬ pf x0 = 0 -> Hid (fi x0 x1 x2 = pf x0) := fun h => fi_path h
 have hmode : pf x0 = 0 -> inB x1 1 2 = false -> Hid (fi x0 x1 x2 = 3) := fun h e => fi_mode h e
 have hid : pf x0 = 0 -> inB x1 1 2 = true -> isOf 1 x2 = false -> Hid (fi x0 x1 x2 = 1) := fun h e q => fi_id h e q
 have hok : pf x0 = 0 -> inB x1 1 2 = true -> isOf 1 x2 = true -> Hid (fi x0 x1 x2 = 0) := fun h e q => fi_ok h e q
 obtain ⟨n, hn⟩ : ∃ n, pf x0 = n := ⟨_, rfl⟩
 rw [hn] at hbad hmode hid hok
 simp only [hn] at hN
 clear hn
 go_enter Tryz.func50, Tryz.ntmps50
 go_wp2_with fail
 refine (hN _).mono ?_; rintro e w2 ⟨rfl, b2⟩
 have B2 : Below w.heap.size w w2 := b1.trans (b2.mono b1.size)
 have r2 := r1.below z1 b2
 have c0 := r2.at_ 0 _ rfl
 have c1 := r2.at_ 1 _ rfl
 have c2 := r2.at_ 2 _ rfl
 clear hN b1 b2 r1 r2 hW1
 by_cases hz : n = 0
 ·have qn : (n != 0) = false := by simp [hz]
  clear hbad
  subst hz
  replace hmode := hmode rfl
  replace hid := hid rfl
  replace hok := hok rfl
  have hM := fun w => isFileModeC x1 w
  cases hin : inB x1 1 2 with
  | false =>
   have HR := hmode hin
   rw [hin] at hM
   clear hmode hid hok hin hO
   go_wp2_with fail
   refine (hM _).mono ?_; rintro e w3 ⟨rfl, rfl⟩
   go_wp2
   go_ret
   exact ⟨ret_int HR.out.symm, B2⟩
  | true =>
   replace hid := hid hin
   replace hok := hok hin
   rw [hin] at hM
   clear hmode hin
   cases hb : isOf 1 x2 with
   | false =>
    have HR := hid hb
    rw [hb] at hO
    clear hid hok hb
    go_wp2_with fail
    refine (hM _).mono ?_; rintro e w3 ⟨rfl, rfl⟩
    go_wp2_with fail
    refine (hO _).mono ?_; rintro e w3 ⟨rfl, m, rfl⟩
    go_wp2
    go_ret
    exact ⟨ret_int HR.out.symm, below_drewN' B2 _⟩
   | true =>
    have HR := hok hb
    rw [hb] at hO
    clear hid hok hb
    go_wp2_with fail
    refine (hM _).mono ?_; rintro e w3 ⟨rfl, rfl⟩
    go_wp2_with fail
    refine (hO _).mono ?_; rintro e w3 ⟨rfl, m, rfl⟩
    go_wp2
    go_ret
    exact ⟨ret_int HR.out.symm, below_drewN' B2 _⟩
 ·have HR := hbad hz
  have qn : (n != 0) = true := by simp [hz]
  clear hbad hmode hid hok hO hz
  go_wp2
  go_ret
  exact ⟨ret_int HR.out.symm, B2⟩
end Go.Proofs.YtcfnkndbhpdfnaaGreatDoor.Fl
namespace Go.Proofs.YtcfnkndbhpdfnaaGreatDoor.Fl
open Go.ChangeShapes Go.WideShapes Go.ChangeAt Go.RowKit
theorem quietM {P : Program} {f : FuncId} {args : Array Value} {w : World} {n : Nat} {v : Value} (h : Calls P f args (w.drewN n) fun e w' => e = .returned v /\ ∃ m, w' = (w.drewN n).drewN m) : Calls P f args (w.drewN n) fun e w'' => e = .returned v /\ ∃ m, w'' = w.drewN m := h.mono fun _ _ ⟨he, m, hm⟩ => ⟨he, n + m, by rw [hm, World.drewN_drewN]⟩
theorem quietS {P : Program} {f : FuncId} {args : Array Value} {w : World} {n : Nat} {v : Value} (h : Calls P f args (w.drewN n) fun e w' => e = .returned v /\ w' = w.drewN n) : Calls P f args (w.drewN n) fun e w'' => e = .returned v /\ ∃ m, w'' = w.drewN m := h.mono fun _ _ ⟨he, hm⟩ => ⟨he, n, hm⟩
set_option maxRecDepth 20000 in
set_option maxHeartbeats 4000000 in
theorem specFilesFault (a : Option Addr) (c : Nat) (l : List Ob) (w : World) (h : OB w.heap.size w a l) (hs : SmallO l) (hn : l.length <= 1048576) :
  Calls Tryz.prog 18 #[.slice a l.length c] w fun e w' => e = .returned (.int .i64 (ffl l)) /\ Below w.heap.size w w' := by
 by_cases hm : 60 < l.length
 ·have hC : Hid (ffl l = 2) := by
   show ffl l = 2
   rw [ffl_bad (by rw [fiE_many hm]; decide), fiE_many hm]
  have q : (60 : Int) < (l.length : Int) := by omega
  go_enter Tryz.func18, Tryz.ntmps18
  go_wp2
  go_ret
  exact ⟨ret_int hC.out.symm, Below.refl _ _⟩
 have q : ¬ (60 : Int) < (l.length : Int) := by omega
 go_enter Tryz.func18, Tryz.ntmps18
 go_wp2
 go_loopw [3, 4, 5] (fun i _o _r wr => ∃ k : Nat, k <= l.length /\ i = .int .i64 k /\ Hid (∀ j, j < k -> fiF l j = 0) /\ Below w.heap.size w wr) (fun i _ _ _ => l.length - (intOf i).toNat)
 case atStart => exact ⟨0, Nat.zero_le _, rfl, fun j hj => absurd hj (Nat.not_lt_zero _), Below.refl _ _⟩
 case round =>
  obtain ⟨k, hk, rfl, hA, hbel⟩ := hrel
  have hsz := hbel.size
  by_cases hlt : k < l.length
  ·have qk : (k : Int) < (l.length : Int) := by omega
   have h3 := h.below hbel
   obtain ⟨g, off, e, hg, d0, d1, d2⟩ := h3 k hlt
   subst e
   have hsl := (hs _ (ob_mem l k hlt)).1
   have hbad : ¬ fiF l k = 0 -> Hid (ffl l = fiF l k) := fun hb => by
    show ffl l = _
    have e := fiE_bad hm hlt hA.out hb
    rw [ffl_bad (by rw [e]; exact hb), e]
   have hgo : fiF l k = 0 -> Hid (∀ j, j < k + 1 -> fiF l j = 0) := fun h0 => by
    show ∀ j, _
    intro j hj
    by_cases e : j = k
    ·rw [e]; exact h0
    ·exact hA.out j (by omega)
   have hF : fiF l k = fiF l k := rfl
   conv at hF => rhs; unfold fiF
   have hp : 0 < k -> wr.cell? ⟨g, off + (k - 1) * 3, none⟩ = some (.string (l.getD (k - 1) onil).1) := fun hk0 => by
    obtain ⟨g', off', e', _, f0, _, _⟩ := h3 (k - 1) (by omega)
    simp only [Option.some.injEq, Addr.mk.injEq, and_true] at e'
    obtain ⟨rfl, rfl⟩ := e'
    exact f0
   obtain ⟨C, hCe⟩ : ∃ C, l.getD k onil = C := ⟨_, rfl⟩
   obtain ⟨P, hPe⟩ : ∃ P, (l.getD (k - 1) onil).1 = P := ⟨_, rfl⟩
   obtain ⟨x0, x1, x2⟩ := C
   rw [hCe] at d0 d1 d2 hF hsl
   rw [hPe] at hF hp
   simp only [] at d0 d1 d2 hF hsl
   have hN := fun w => specPathFault x0 w hsl
   have hO := fun w => l6Is 1 (.inl rfl) x2 w
   have fp := fi_path (x0 := x0) (x1 := x1) (x2 := x2)
   have fm := fi_mode (x0 := x0) (x1 := x1) (x2 := x2)
   have fd := fi_id (x0 := x0) (x1 := x1) (x2 := x2)
   have fk := fi_ok (x0 := x0) (x1 := x1) (x2 := x2)
   obtain ⟨n, hn0⟩ : ∃ n, pf x0 = n := ⟨_, rfl⟩
   rw [hn0] at fp fm fd fk
   simp only [hn0] at hN
   obtain ⟨K, hK⟩ : ∃ K, fi x0 x1 x2 = K := ⟨_, rfl⟩
   rw [hK] at hF fp fm fd fk
   obtain ⟨W1, hW1⟩ : ∃ W, wr.alloc (.cells #[.string x0, .int .i64 x1, .string x2] 34) = W := ⟨_, rfl⟩
   have b1 : Below wr.heap.size wr W1 := by rw [<- hW1]; exact allocBelow _ _
   have r1 : Rf W1 wr.heap.size [.string x0, .int .i64 x1, .string x2] := by rw [<- hW1]; exact Rf.new _ _ _
   have z1 : wr.heap.size < W1.heap.size := by rw [<- hW1]; simp
   have c0 := r1.at_ 0 _ rfl
   have c1 := r1.at_ 1 _ rfl
   have c2 := r1.at_ 2 _ rfl
   have hgr : g < wr.heap.size := by omega
   clear hCe hPe hA h3 hn0 hK
   go_wp2_with fail
   refine (hN _).mono ?_; rintro e w2 ⟨rfl, b2⟩
   have hB : Below wr.heap.size wr w2 := b1.trans (b2.mono (Nat.le_of_lt z1))
   have B1 : Below w.heap.size w w2 := below_step hbel hsz hB
   have r2 := r1.below z1 b2
   have c0 := r2.at_ 0 _ rfl
   have c1 := r2.at_ 1 _ rfl
   have c2 := r2.at_ 2 _ rfl
   have hp' : 0 < k -> w2.cell? ⟨g, off + (k - 1) * 3, none⟩ = some (.string P) := fun hk0 => (hB.cell (p := ⟨g, off + (k - 1) * 3, none⟩) hgr).trans (hp hk0)
   clear hp r1 b1 b2 r2 hN hW1 d0 d1 d2 hbel hB
   by_cases hz : n = 0
   ·have qn : (n != 0) = false := by simp [hz]
    subst hz
    replace fm := fm rfl
    replace fd := fd rfl
    replace fk := fk rfl
    clear fp
    cases hin : inB x1 1 2 with
    | false =>
     obtain ⟨n1, n2⟩ := inB12F hin
     have hE := fm hin
     rw [hE, if_neg (by decide)] at hF
     have HC := hbad (by rw [hF]; decide)
     rw [hF] at HC
     have q1 : (x1 != 1) = true := by simpa using n1
     have q2 : (x1 != 2) = true := by simpa using n2
     clear hbad hgo hF hE hO hp' hin n1 n2 fm fd fk
     go_wp2
     go_ret
     exact ⟨ret_int HC.out.symm, B1⟩
    | true =>
     replace fd := fd hin
     replace fk := fk hin
     clear fm
     have q12 : (x1 != 1) = false \/ (x1 != 1) = true /\ (x1 != 2) = false := by
      rcases inB12 hin with e | e
      ·exact .inl (by simp [e])
      ·exact .inr ⟨by simp [e], by simp [e]⟩
     clear hin
     cases hb : isOf 1 x2 with
     | false =>
      have hE := fd hb
      rw [hE, if_neg (by decide)] at hF
      have HC := hbad (by rw [hF]; decide)
      rw [hF] at HC
      rw [hb] at hO
      clear hbad hgo hF hE hp' hb fd fk
      rcases q12 with q1 | ⟨q1, q2⟩ <;>
      ·go_wp2
       go_quiet ((go_at_call 42; exact quietM (hO _)))
       go_wp2
       go_ret
       exact ⟨ret_int HC.out.symm, below_drewN' B1 _⟩
     | true =>
      have hE := fk hb
      rw [if_pos hE] at hF
      rw [hb] at hO
      clear hE hb fd fk
      by_cases hk0 : 0 < k
      ·have hI0 : (0 : Int) < (k : Int) := by omega
       have e1 := hp' hk0
       obtain ⟨m, hmk⟩ : ∃ m, k - 1 = m := ⟨_, rfl⟩
       have hw : IntKind.i64.wrap ((k : Int) - 1) = (m : Int) := by rw [IntKind.wrap_i64]; omega
       have hI2 : (m : Int) < (l.length : Int) := by omega
       rw [hmk] at e1
       clear hp' hmk
       cases hle : leF x0 P with
       | true =>
        have HC := hbad (by rw [hF, hle, if_pos ⟨hk0, rfl⟩]; decide)
        rw [hF, hle, if_pos ⟨hk0, rfl⟩] at HC
        unfold leF at hle
        clear hbad hgo hF
        cases hlb : Op.bytesLess x0.toList P.toList with
        | true =>
         clear hle
         rcases q12 with q1 | ⟨q1, q2⟩ <;>
         ·go_wp2
          go_quiet ((go_at_call 42; exact quietM (hO _)))
          go_wp2
          go_ret
          exact ⟨ret_int HC.out.symm, below_drewN' B1 _⟩
        | false =>
         rw [hlb, Bool.false_or] at hle
         rcases q12 with q1 | ⟨q1, q2⟩ <;>
         ·go_wp2
          go_quiet ((go_at_call 42; exact quietM (hO _)))
          go_wp2
          go_ret
          exact ⟨ret_int HC.out.symm, below_drewN' B1 _⟩
       | false =>
        have HG := hgo (by rw [hF, hle, if_neg (fun c => Bool.noConfusion c.2)])
        unfold leF at hle
        obtain ⟨hl1, hl2⟩ := Bool.or_eq_false_iff.1 hle
        clear hbad hgo hF hle
        rcases q12 with q1 | ⟨q1, q2⟩ <;>
        ·go_wp2
         go_quiet ((go_at_call 42; exact quietM (hO _)))
         go_wp2
         go_roundw
         case rel => exact ⟨k + 1, by omega, by go_num, HG, below_drewN' B1 _⟩
         case measure => first | (simp [intOf]; omega) | simp [intOf]
      ·have hI0 : ¬ (0 : Int) < (k : Int) := by omega
       have HG := hgo (by rw [hF, if_neg (fun c => hk0 c.1)])
       clear hbad hgo hF hp'
       rcases q12 with q1 | ⟨q1, q2⟩ <;>
       ·go_wp2
        go_quiet ((go_at_call 42; exact quietM (hO _)))
        go_wp2
        go_roundw
        case rel => exact ⟨k + 1, by omega, by go_num, HG, below_drewN' B1 _⟩
        case measure => first | (simp [intOf]; omega) | simp [intOf]
   ·have hE := fp hz
    have qn : (n != 0) = true := by simp [hz]
    rw [if_neg (by rw [hE]; exact hz), hE] at hF
    have HC := hbad (by rw [hF]; exact hz)
    rw [hF] at HC
    clear hbad hgo hF hE hp' hO fp fm fd fk hz
    go_wp2
    go_ret
    exact ⟨ret_int HC.out.symm, B1⟩
  ·have qk : ¬ (k : Int) < (l.length : Int) := by omega
   have hE : Hid (fiE l = 0) := fiE_ok hm (fun j hj => hA.out j (by omega))
   have hTT : tkA l l.length = true -> Hid (ffl l = 7) := fun e => ffl_taken hE.out e
   have hTF : tkA l l.length = false -> Hid (ffl l = 0) := fun e => ffl_ok hE.out e
   have h1 := (h.below hbel).mono hsz
   clear hA hE
   obtain ⟨V, rfl⟩ : ∃ V, V = wr := ⟨_, rfl⟩
   go_wp2
   go_loopw [6, 7] (fun i _j wq => ∃ k : Nat, k <= l.length /\ i = .int .i64 k /\ Hid (tkA l k = false) /\ Below V.heap.size V wq) (fun i _ _ => l.length - (intOf i).toNat)
   case atStart => exact ⟨0, Nat.zero_le _, rfl, tkA_zero l, Below.refl _ _⟩
   case round =>
    obtain ⟨k, hk, rfl, hA, hbq⟩ := hrel
    have hA2 := tkA_succ l k
    rw [hA.out, Bool.false_or] at hA2
    by_cases hlt : k < l.length
    ·have qk : (k : Int) < (l.length : Int) := by omega
     have hYes : tk l (l.getD k onil).1 = true -> Hid (ffl l = 7) := fun e => hTT (tkA_more (hA2.trans e) (by omega))
     have hNo : tk l (l.getD k onil).1 = false -> Hid (tkA l (k + 1) = false) := fun e => hA2.trans e
     have h3 := h1.below hbq
     obtain ⟨g, off, e, hg, d0, _, _⟩ := h3 k hlt
     obtain ⟨p, hpe⟩ : ∃ p, (l.getD k onil).1 = p := ⟨_, rfl⟩
     rw [hpe] at hYes hNo d0
     have hps : p.size <= 1048576 := by rw [<- hpe]; exact (hs _ (ob_mem l k hlt)).1
     clear hA hA2 hTT hpe
     obtain ⟨U, rfl⟩ : ∃ U, U = wr := ⟨_, rfl⟩
     go_wp2
     go_loopw [7] (fun j wq => ∃ m : Nat, m <= l.length /\ j = .int .i64 m /\ Hid (tkU l p m = false) /\ Below U.heap.size U wq) (fun j _ => l.length - (intOf j).toNat)
     case atStart => exact ⟨0, Nat.zero_le _, rfl, tkU_zero l p, Below.refl _ _⟩
     case round =>
      obtain ⟨m, hmm, rfl, hU, hbu⟩ := hrel
      have hU2 := tkU_succ l p m
      rw [hU.out, Bool.false_or] at hU2
      have BU : Below V.heap.size V wr := below_step hbq hbq.size hbu
      have BW : Below w.heap.size w wr := below_step hbel hsz BU
      by_cases hlm : m < l.length
      ·have qm : (m : Int) < (l.length : Int) := by omega
       obtain ⟨g', off', e', hg', f0, _, _⟩ := (h3.below hbu) m hlm
       have d0' := (h3.below hbu) k hlt
       obtain ⟨g2, off2, e2, hg2, f2, _, _⟩ := d0'
       rw [e] at e' e2
       simp only [Option.some.injEq, Addr.mk.injEq, and_true] at e' e2
       obtain ⟨rfl, rfl⟩ := e'
       obtain ⟨rfl, rfl⟩ := e2
       obtain ⟨y, hy⟩ : ∃ y, (l.getD m onil).1 = y := ⟨_, rfl⟩
       have hys : y.size <= 1048576 := by rw [<- hy]; exact (hs _ (ob_mem l m hlm)).1
       rw [hy] at hU2 f0
       have hd0 : wr.cell? ⟨g, off + k * 3, none⟩ = some (.string p) := by
        have hgU : g < U.heap.size := by have := hbq.size; omega
        exact (hbu.cell (p := ⟨g, off + k * 3, none⟩) hgU).trans d0
       have hI := fun w => specInDir p y w hps hys
       cases hin : inD p y with
       | false =>
        rw [hin] at hU2 hI
        have HU : Hid (tkU l p (m + 1) = false) := hU2
        subst e
        clear hU hU2 hin hYes hNo hTF hy f2 h3
        go_wp2
        go_quiet ((go_at_call 43; exact quietS (hI _)))
        go_wp2
        go_roundw
        case rel => exact ⟨m + 1, by omega, by go_num, HU, below_drewN' hbu _⟩
        case measure => simp [intOf]; omega
       | true =>
        rw [hin] at hU2 hI
        have HT := hYes (tkU_more hU2 (by omega))
        subst e
        clear hU hU2 hin hYes hNo hTF hy f2 h3
        go_wp2
        go_quiet ((go_at_call 43; exact quietS (hI _)))
        go_wp2
        go_ret
        exact ⟨ret_int HT.out.symm, below_drewN' BW _⟩
      ·have qm : ¬ (m : Int) < (l.length : Int) := by omega
       have em : m = l.length := by omega
       have HN := hNo (by show tkU l p l.length = false; rw [<- em]; exact hU.out)
       clear hYes hNo hU hU2 hTF em
       go_wp2
       go_roundw
       case rel => exact ⟨k + 1, by omega, by go_num, HN, BU⟩
       case measure => simp [intOf]; omega
    ·have qk : ¬ (k : Int) < (l.length : Int) := by omega
     have ek : k = l.length := by omega
     have HF := hTF (by rw [<- ek]; exact hA.out)
     have B1 : Below w.heap.size w wr := below_step hbel hsz hbq
     clear hTT hTF hA hA2 ek
     go_wp2
     go_ret
     exact ⟨ret_int HF.out.symm, B1⟩
end Go.Proofs.YtcfnkndbhpdfnaaGreatDoor.Fl
namespace Go.Proofs.YtcfnkndbhpdfnaaGreatDoor.En
open Go.ChangeShapes Go.WideShapes Go.ChangeAt Go.RowKit
theorem byL_irr : ∀ a : List UInt8, Op.bytesLess a a = false
 | [] => rfl
 | x :: a => by
  have ih := byL_irr a
  unfold Op.bytesLess
  have h1 : ¬ x < x := fun h => by have : x.toNat < x.toNat := h; omega
  simp [h1, ih]
theorem byL_trans : ∀ a b c : List UInt8, Op.bytesLess a b = true -> Op.bytesLess b c = true -> Op.bytesLess a c = true
 | [], [], _, h, _ => by simp [Op.bytesLess] at h
 | [], _ :: _, [], _, h => by simp [Op.bytesLess] at h
 | [], _ :: _, _ :: _, _, _ => rfl
 | _ :: _, [], _, h, _ => by simp [Op.bytesLess] at h
 | _ :: _, _ :: _, [], _, h => by simp [Op.bytesLess] at h
 | x :: a, y :: b, z :: c, h1, h2 => by
  have ih := byL_trans a b c
  unfold Op.bytesLess at h1 h2 ⊢
  by_cases xy : x < y
  ·by_cases yz : y < z
   ·have xz : x < z := by have a1 : x.toNat < y.toNat := xy; have a2 : y.toNat < z.toNat := yz; exact (show x.toNat < z.toNat by omega)
    simp [xz]
   ·by_cases e : y = z
    ·subst e; simp [xy]
    ·simp [yz, e] at h2
  ·by_cases e : x = y
   ·subst e
    by_cases yz : x < z
    ·simp [yz]
    ·by_cases e2 : x = z
     ·subst e2
      simp [xy] at h1 h2 ⊢
      exact ih h1 h2
     ·simp [yz, e2] at h2
   ·simp [xy, e] at h1
theorem cmB_lt {a b : ByteArray} : cmB a b < 0 ↔ Op.bytesLess a.toList b.toList = true := by
 rcases cmB_cases a b with ⟨h1, h2, _⟩ | ⟨h1, h2⟩ | ⟨h1, h2, _⟩
 ·rw [h1, h2]; simp
 ·rw [h1, h2, byL_irr]; simp
 ·rw [h1, h2]; simp
theorem cmB_trans {a b c : ByteArray} (h1 : cmB a b < 0) (h2 : cmB b c < 0) : cmB a c < 0 := by
 rw [cmB_lt] at *
 exact byL_trans _ _ _ h1 h2
theorem cmB_zero {a b : ByteArray} : cmB a b = 0 ↔ a = b := by
 rcases cmB_cases a b with ⟨h1, _, h3⟩ | ⟨h1, h2⟩ | ⟨h1, _, h3⟩
 ·refine ⟨fun h => by omega, fun h => ?_⟩
  rw [beq_bytes_true h] at h3; cases h3
 ·exact ⟨fun _ => h2, fun _ => h1⟩
 ·refine ⟨fun h => by omega, fun h => ?_⟩
  rw [beq_bytes_true h] at h3; cases h3
theorem cmI_lt {a b : Int} : cmI a b < 0 ↔ a < b := by
 unfold cmI
 by_cases h : a < b
 ·simp [h]
 ·rw [if_neg h]
  by_cases h2 : b < a
  ·rw [if_pos h2]; omega
  ·rw [if_neg h2]; omega
theorem cmE_lt {a b : Ob} : cmE a b < 0 ↔ cmB a.1 b.1 < 0 \/ (a.1 = b.1 /\ a.2.1 < b.2.1) := by
 unfold cmE
 by_cases h : cmB a.1 b.1 = 0
 ·rw [if_pos h, cmI_lt]
  have e := cmB_zero.1 h
  constructor
  ·intro q; exact .inr ⟨e, q⟩
  ·rintro (q | ⟨_, q⟩)
   ·omega
   ·exact q
 ·rw [if_neg h]
  constructor
  ·intro q; exact .inl q
  ·rintro (q | ⟨e, _⟩)
   ·exact q
   ·exact absurd (cmB_zero.2 e) h
theorem cmE_trans {a b c : Ob} (h1 : cmE a b < 0) (h2 : cmE b c < 0) : cmE a c < 0 := by
 rw [cmE_lt] at *
 rcases h1 with h1 | ⟨e1, h1⟩
 ·rcases h2 with h2 | ⟨e2, _⟩
  ·exact .inl (cmB_trans h1 h2)
  ·rw [<- e2]; exact .inl h1
 ·rcases h2 with h2 | ⟨e2, h2⟩
  ·rw [e1]; exact .inl h2
  ·exact .inr ⟨e1.trans e2, by omega⟩
theorem ix_rises {l : List Ob} (h : ixf l = 0) : ∀ k j, j < k -> k < l.length -> cmE (l.getD j onil) (l.getD k onil) < 0 := by
 have h0 := (ixf_zero h).2
 intro k
 induction k with
 | zero => intro j hj; omega
 | succ k ih =>
  intro j hj hk
  have hb := (eiF_zero (h0 (k + 1) hk)).2 (by omega)
  have hs : cmE (l.getD k onil) (l.getD (k + 1) onil) < 0 := by
   unfold bh at hb
   rw [Nat.add_sub_cancel] at hb
   exact of_decide_eq_true (Bool.and_eq_true_iff.1 hb).1
  by_cases e : j = k
  ·rw [e]; exact hs
  ·exact cmE_trans (ih j (by omega) (by omega)) hs
end Go.Proofs.YtcfnkndbhpdfnaaGreatDoor.En
