/- The program's sorted list of entries: the library's binary search, and an entry put behind all others. No statement is proved here. -/
import Derived.Test.YtcfnkndbhpdfnaaGreatDoorSgCQ
import Derived.Test.YtcfnkndbhpdfnaaGreatDoorDiCQ
namespace Go.Proofs.YtcfnkndbhpdfnaaGreatDoor.En
open Go.ChangeShapes Go.WideShapes Go.ChangeAt Go.RowKit
def Cuts (l : List Ob) (T : Ob) (p : Nat) : Prop := p <= l.length /\ (∀ k, k < p -> cmE (l.getD k onil) T < 0) /\ (∀ k, p <= k -> k < l.length -> 0 <= cmE (l.getD k onil) T)
def hit (l : List Ob) (T : Ob) (p : Nat) : Bool := decide (p < l.length) && (cmE (l.getD p onil) T == 0)
set_option maxRecDepth 20000 in
set_option maxHeartbeats 4000000 in
theorem searchC (a : Option Addr) (c : Nat) (l : List Ob) (T : Ob) (p : Nat) (w : World) (h : OB w.heap.size w a l) (hn : l.length <= 1048576) (hp : Cuts l T p) :
  Calls Tryz.prog 111 #[.slice a l.length c, .agg #[.string T.1, .int .i64 T.2.1, .int .i64 T.2.2.1, .string T.2.2.2], .func (.func 81) #[] #[]] w fun e w' => e = .returned (.tuple #[.int .i64 p, .bool (hit l T p)]) /\ Below w.heap.size w w' := by
 obtain ⟨hpn, hlo, hhi⟩ := hp
 obtain ⟨t0, t1, t2, t3⟩ := T
 obtain ⟨W, hW⟩ : ∃ W, w.alloc (.cells #[.string t0, .int .i64 t1, .int .i64 t2, .string t3] 86) = W := ⟨_, rfl⟩
 have bW : Below w.heap.size w W := by rw [<- hW]; exact allocBelow _ _
 have oW : Rf W w.heap.size [.string t0, .int .i64 t1, .int .i64 t2, .string t3] := by rw [<- hW]; exact Rf.new _ _ _
 have zW : w.heap.size < W.heap.size := by rw [<- hW]; simp
 have hL : Hid (∀ k, k < p -> cmE (l.getD k onil) (t0, t1, t2, t3) < 0) := hlo
 have hH : Hid (∀ k, p <= k -> k < l.length -> 0 <= cmE (l.getD k onil) (t0, t1, t2, t3)) := hhi
 clear hlo hhi
 simp only []
 go_enter Tryz.func111, Tryz.ntmps111
 go_wp2
 go_loopw [9, 10, 11] (fun vi vj _h wr => ∃ i j : Nat, i <= p /\ p <= j /\ j <= l.length /\ vi = .int .i64 i /\ vj = .int .i64 j /\ Below W.heap.size W wr) (fun vi vj _ _ => (intOf vj).toNat - (intOf vi).toNat)
 case atStart => exact ⟨0, l.length, Nat.zero_le _, hpn, Nat.le_refl _, rfl, rfl, Below.refl _ _⟩
 case round =>
  obtain ⟨i, j, hi, hj, hjl, rfl, rfl, hbel⟩ := hrel
  have hsz := hbel.size
  have h3 := (h.below bW).below hbel
  have o3 := oW.below zW hbel
  have m0 := o3.at_ 0 _ rfl
  have m1 := o3.at_ 1 _ rfl
  have m2 := o3.at_ 2 _ rfl
  have m3 := o3.at_ 3 _ rfl
  by_cases hlt : i < j
  ·have q : (i : Int) < (j : Int) := by omega
   obtain ⟨m, hm⟩ : ∃ m, (i + j) / 2 = m := ⟨_, rfl⟩
   have hmj : m < j := by omega
   have him : i <= m := by omega
   obtain ⟨g, off, e, hg, d0, d1, d2, d3⟩ := h3 m (by omega)
   subst e
   have hc1 : m < p -> cmE (l.getD m onil) (t0, t1, t2, t3) < 0 := fun q => hL.out m q
   have hc2 : p <= m -> 0 <= cmE (l.getD m onil) (t0, t1, t2, t3) := fun q => hH.out m q (by omega)
   obtain ⟨C, hCe⟩ : ∃ C, l.getD m onil = C := ⟨_, rfl⟩
   obtain ⟨x0, x1, x2, x3⟩ := C
   rw [hCe] at d0 d1 d2 d3 hc1 hc2
   simp only [] at d0 d1 d2 d3
   have hB := fun W => byPathAndStageC (x0, x1, x2, x3) (t0, t1, t2, t3) W
   simp only [] at hB
   obtain ⟨K, hK⟩ : ∃ K, cmE (x0, x1, x2, x3) (t0, t1, t2, t3) = K := ⟨_, rfl⟩
   rw [hK] at hc1 hc2 hB
   have hmI : (m : Int) < (l.length : Int) := by omega
   have hme : ((i : Int) + (j : Int)) / 2 = (m : Int) := by omega
   clear hCe hK
   have HM : Hid (i <= m /\ m < j) := ⟨him, hmj⟩
   clear hm him hmj
   go_wp2_with fail
   go_cut [31] from 24 to 31 (fun s wx => s = .bool (decide (K < 0)) /\ Below wr.heap.size wr wx)
   case first =>
    clear hc1 hc2 hL hH h3 o3 hbel hi hj hjl q h hW oW
    go_region_held (fun w' => w'.cell? ⟨w.heap.size, 0, none⟩ = some (.string t0) /\ w'.cell? ⟨w.heap.size, 1, none⟩ = some (.int .i64 t1) /\ w'.cell? ⟨w.heap.size, 2, none⟩ = some (.int .i64 t2) /\ w'.cell? ⟨w.heap.size, 3, none⟩ = some (.string t3) /\ w'.cell? ⟨g, off + m * 4, none⟩ = some (.string x0) /\ w'.cell? ⟨g, off + m * 4 + 1, none⟩ = some (.int .i64 x1) /\ w'.cell? ⟨g, off + m * 4 + 2, none⟩ = some (.int .i64 x2) /\ w'.cell? ⟨g, off + m * 4 + 3, none⟩ = some (.string x3)) (first | with_reducible exact ⟨m0, m1, m2, m3, d0, d1, d2, d3⟩ | with_reducible exact ⟨e0, e1, e2, e3, f0, f1, f2, f3⟩ | exact ⟨m0, m1, m2, m3, d0, d1, d2, d3⟩)
     ((go_at_call 81; refine (hB _).mono ?_; rintro e wb ⟨rfl, bb⟩; have fb := Fr.ofBelow (lo := 0) (hi := 0) bb; have e0 := fb.cell m0 (.inr (Nat.zero_le _)); have e1 := fb.cell m1 (.inr (Nat.zero_le _)); have e2 := fb.cell m2 (.inr (Nat.zero_le _)); have e3 := fb.cell m3 (.inr (Nat.zero_le _)); have f0 := fb.cell d0 (.inr (Nat.zero_le _)); have f1 := fb.cell d1 (.inr (Nat.zero_le _)); have f2 := fb.cell d2 (.inr (Nat.zero_le _)); have f3 := fb.cell d3 (.inr (Nat.zero_le _)); have Bt1 : Below wr.heap.size wr wb := (below_drew (Below.refl _ _)).trans bb))
    all_goals (go_wp2_with fail; go_meet; exact ⟨rfl, Bt1⟩)
   case rest =>
   obtain ⟨rfl, hb2⟩ := hcut
   have B2 := below_step hbel hsz hb2
   obtain ⟨him, hmj⟩ := HM.out
   clear hb2 hB hbel d0 d1 d2 d3 m0 m1 m2 m3 o3 h3
   by_cases hK0 : K < 0
   ·have hKd : decide (K < 0) = true := decide_eq_true hK0
    have hmp : m < p := by
     rcases Nat.lt_or_ge m p with q | q
     ·exact q
     ·exact absurd hK0 (by have := hc2 q; omega)
    clear hc1 hc2 hL hH
    go_wp2
    go_roundw
    case rel => exact ⟨m + 1, j, by omega, hj, hjl, by go_num, rfl, B2⟩
    case measure => simp [intOf]; omega
   ·have hKd : decide (K < 0) = false := decide_eq_false hK0
    have hmp : p <= m := by
     rcases Nat.lt_or_ge m p with q | q
     ·exact absurd (hc1 q) hK0
     ·exact q
    clear hc1 hc2 hL hH
    go_wp2
    go_roundw
    case rel => exact ⟨i, m, hi, hmp, by omega, rfl, rfl, B2⟩
    case measure => simp [intOf]; omega
  ·have q : ¬ (i : Int) < (j : Int) := by omega
   have ei : i = p := by omega
   subst ei
   by_cases hin : i < l.length
   ·have qn : (i : Int) < (l.length : Int) := by omega
    obtain ⟨g, off, e, hg, d0, d1, d2, d3⟩ := h3 i hin
    subst e
    have hR : hit l (t0, t1, t2, t3) i = (cmE (l.getD i onil) (t0, t1, t2, t3) == 0) := by unfold hit; simp [hin]
    obtain ⟨C, hCe⟩ : ∃ C, l.getD i onil = C := ⟨_, rfl⟩
    obtain ⟨x0, x1, x2, x3⟩ := C
    rw [hCe] at d0 d1 d2 d3 hR
    simp only [] at d0 d1 d2 d3
    have hB := fun W => byPathAndStageC (x0, x1, x2, x3) (t0, t1, t2, t3) W
    simp only [] at hB
    obtain ⟨K, hK⟩ : ∃ K, cmE (x0, x1, x2, x3) (t0, t1, t2, t3) = K := ⟨_, rfl⟩
    rw [hK] at hR hB
    have HR : Hid (hit l (t0, t1, t2, t3) i = (K == 0)) := hR
    clear hCe hK hR hL hH
    have B2 := bW.trans (hbel.mono bW.size)
    go_wp2_with fail
    clear h3 o3 hbel hi hj hjl q h hW oW
    go_region_held (fun w' => w'.cell? ⟨w.heap.size, 0, none⟩ = some (.string t0) /\ w'.cell? ⟨w.heap.size, 1, none⟩ = some (.int .i64 t1) /\ w'.cell? ⟨w.heap.size, 2, none⟩ = some (.int .i64 t2) /\ w'.cell? ⟨w.heap.size, 3, none⟩ = some (.string t3) /\ w'.cell? ⟨g, off + i * 4, none⟩ = some (.string x0) /\ w'.cell? ⟨g, off + i * 4 + 1, none⟩ = some (.int .i64 x1) /\ w'.cell? ⟨g, off + i * 4 + 2, none⟩ = some (.int .i64 x2) /\ w'.cell? ⟨g, off + i * 4 + 3, none⟩ = some (.string x3)) (first | with_reducible exact ⟨m0, m1, m2, m3, d0, d1, d2, d3⟩ | with_reducible exact ⟨e0, e1, e2, e3, f0, f1, f2, f3⟩ | exact ⟨m0, m1, m2, m3, d0, d1, d2, d3⟩)
     ((go_at_call 81; refine (hB _).mono ?_; rintro e wb ⟨rfl, bb⟩; have fb := Fr.ofBelow (lo := 0) (hi := 0) bb; have e0 := fb.cell m0 (.inr (Nat.zero_le _)); have e1 := fb.cell m1 (.inr (Nat.zero_le _)); have e2 := fb.cell m2 (.inr (Nat.zero_le _)); have e3 := fb.cell m3 (.inr (Nat.zero_le _)); have f0 := fb.cell d0 (.inr (Nat.zero_le _)); have f1 := fb.cell d1 (.inr (Nat.zero_le _)); have f2 := fb.cell d2 (.inr (Nat.zero_le _)); have f3 := fb.cell d3 (.inr (Nat.zero_le _)); have Bt1 : Below w.heap.size w wb := B2.trans (((below_drew (Below.refl _ _)).trans bb).mono B2.size)))
    all_goals
     clear e0 e1 e2 e3 f0 f1 f2 f3 m0 m1 m2 m3 d0 d1 d2 d3 bb fb
     go_wp2
     refine bodyPost_ret (v := .tuple #[.int .i64 i, .bool (K == 0)]) (by simp [results, Tryz.results111, go_sem]) rfl ?_
     exact ⟨by rw [HR.out], Bt1⟩
   ·have qn : ¬ (i : Int) < (l.length : Int) := by omega
    have HR : Hid (hit l (t0, t1, t2, t3) i = false) := by show _ = _; unfold hit; simp [hin]
    have B2 := bW.trans (hbel.mono bW.size)
    clear hL hH h3 o3
    go_wp2_with fail
    go_quiet (fail)
    go_wp2
    refine bodyPost_ret (v := .tuple #[.int .i64 i, .bool false]) (by simp [results, Tryz.results111, go_sem]) rfl ?_
    exact ⟨by rw [HR.out], below_drewN' B2 _⟩
end Go.Proofs.YtcfnkndbhpdfnaaGreatDoor.En
namespace Go.Proofs.YtcfnkndbhpdfnaaGreatDoor.En
open Go.ChangeShapes Go.WideShapes Go.ChangeAt Go.RowKit
theorem oneE (l : List Ob) : ∀ u ∈ ocells l, u.oneCell' = true := by
 intro u hu
 unfold ocells rowG at hu
 obtain ⟨j, _, rfl⟩ := List.mem_map.1 hu
 unfold ocell
 split
 ·rfl
 ·split
  ·rfl
  ·split <;> rfl
theorem wpList_appE {w : World} {ops : Array Oper} {rest : List Oper} {o : Oper} {a : Act} {Q : Exit -> Act -> World -> Prop} (hgd : o.guard = none) (s x : Operand)
  (ho : o.op = .call { callee := .builtin .append, args := #[s, x], argTypes := #[28, 28] })
  (base : Nat) (v : Value) (S0 : List Ob) (hs : a.eval s = v) (hown : w.ownsRow base 86 4 v S0.length (ocells S0))
  (AD : Addr) (cx : Nat) (S1 : List Ob) (hx : a.eval x = .slice (some AD) S1.length cx) (hx2 : ∀ j u, (ocells S1)[j]? = some u -> w.cell? (AD.add j) = some u)
  (hb : S0.length + S1.length <= 2097152) (hbase : base <= w.heap.size)
  (h : ∀ v' w', w'.ownsRow base 86 4 v' (S0 ++ S1).length (ocells (S0 ++ S1)) -> w.grownBy w' v.ownBlock -> (v' = .slice none 0 0 ↔ v = .slice none 0 0 /\ S1.length = 0) -> (v'.ownBlock = v.ownBlock \/ v'.ownBlock = some w.heap.size) -> wpList Tryz.prog ops Q rest (a.put o.dst v') w') :
  wpList Tryz.prog ops Q (o :: rest) a w := by
 obtain ⟨i0, hi, hz0, hz1, hz2⟩ := info_parts infoObj
 refine wpList_append_own_at _ hgd s x _ ho base _ i0 _ 4 48 Tryz.underlying28 hi hz0 hz1 hz2 rfl (by decide) v _ _ hs hown AD S1.length cx (ocells S1) hx (ocells_length _) hx2 (oneE _) (by unfold maxLen; omega) (by omega) hbase ?_
 intro v' w' o1 g1 n1 k1
 refine h v' w' ?_ g1 n1 k1
 rw [List.length_append, ocells_app]; exact o1
theorem newE (w : World) (f : Ob) : ∀ j u, (ocells [f])[j]? = some u -> (w.alloc (.cells #[.string f.1, .int .i64 f.2.1, .int .i64 f.2.2.1, .string f.2.2.2] 86)).cell? ((⟨w.heap.size, 0, none⟩ : Addr).add j) = some u := by
 intro j u hu
 rw [ocells_one] at hu
 have h := Rs.new w #[.string f.1, .int .i64 f.2.1, .int .i64 f.2.2.1, .string f.2.2.2] 86 j u hu
 rw [add_plain, Nat.zero_add]
 exact h
def GE (base : Nat) (v : Value) (L : List Ob) (w : World) (e : Ending) (w' : World) : Prop := ∃ v', e = .returned v' /\ w'.ownsRow base 86 4 v' L.length (ocells L) /\ w.grownBy w' v.ownBlock /\ (v'.ownBlock = v.ownBlock \/ v'.ownBlock = some w.heap.size)
set_option maxRecDepth 20000 in
set_option maxHeartbeats 4000000 in
theorem insertEndC (base : Nat) (a : Option Addr) (c g : Nat) (l : List Ob) (E : Ob) (w : World) (h : w.ownsRow base 86 4 (.slice a l.length c) l.length (ocells l)) (hn : l.length <= 1048576)
  (hE : ∀ j u, (ocells [E])[j]? = some u -> w.cell? ((⟨g, 0, none⟩ : Addr).add j) = some u) (hb : base <= w.heap.size) :
  Calls Tryz.prog 112 #[.slice a l.length c, .int .i64 l.length, .slice (some ⟨g, 0, none⟩) 1 1] w fun e w' => GE base (.slice a l.length c) (l ++ [E]) w e w' := by
 have hq : ((l.length : Int) == (l.length : Int)) = true := by simp
 have hcap : l.length <= c /\ (a = none -> l.length = 0 /\ c = 0) /\ (∀ x, a = some x -> ∃ b, x = ⟨b, 0, none⟩) := by
  rcases h.2 with ⟨h', h0⟩ | ⟨b, cap, cur, h', _, _, h1, _⟩
  ·simp only [Value.slice.injEq] at h'
   obtain ⟨rfl, h2, rfl⟩ := h'
   exact ⟨by omega, fun _ => ⟨h2, rfl⟩, fun x e => by cases e⟩
  ·simp only [Value.slice.injEq] at h'
   obtain ⟨rfl, _, rfl⟩ := h'
   exact ⟨h1, fun e => (by cases e), fun x e => ⟨b, by cases e; rfl⟩⟩
 obtain ⟨hc1, hc2, hc3⟩ := hcap
 cases a with
 | none =>
  obtain ⟨e1, rfl⟩ := hc2 rfl
  have el : l = [] := List.length_eq_zero_iff.1 e1
  subst el
  go_enter Tryz.func112, Tryz.ntmps112
  go_wp2_with (at_builtin; refine wpList_appE rfl (.tmp 23) (.tmp 24) rfl base _ [] rfl h _ _ [E] rfl hE (by simp) hb ?_; intro v5 w5 o5 g5 n5 k5)
  go_ret
  exact ⟨_, rfl, o5, g5, k5⟩
 | some x =>
  obtain ⟨b, rfl⟩ := hc3 x rfl
  have qI : (l.length : Int) <= (c : Int) := by omega
  clear hc2 hc3
  by_cases hcc : c = l.length
  ·subst hcc
   go_enter Tryz.func112, Tryz.ntmps112
   go_wp2_with (at_builtin; refine wpList_appE rfl (.tmp 23) (.tmp 24) rfl base (.slice (some ⟨b, 0, none⟩) l.length l.length) _ rfl h _ _ [E] rfl hE (by simp; omega) hb ?_; intro v5 w5 o5 g5 n5 k5)
   go_ret
   exact ⟨_, rfl, o5, g5, k5⟩
  ·go_enter Tryz.func112, Tryz.ntmps112
   go_wp2_with (at_builtin; refine wpList_appE rfl (.tmp 23) (.tmp 24) rfl base (.slice (some ⟨b, 0, none⟩) l.length c) _ rfl h _ _ [E] rfl hE (by simp; omega) hb ?_; intro v5 w5 o5 g5 n5 k5)
   go_ret
   exact ⟨_, rfl, o5, g5, k5⟩
theorem rfGrew {w w' : World} {b : Nat} {vs : List Value} {row : Option Nat} (h : Rf w b vs) (hg : w.grownBy w' row) (hne : some b ≠ row) (hlt : b < w.heap.size) : Rf w' b vs :=
 ⟨fun k v hk => hg.cell (h.at_ k v hk) hne, fun k => by
  have e := hg.block b hlt hne
  have h1 := h.fz k
  unfold World.frozen? at h1 ⊢
  rw [e]; exact h1⟩
structure SL (w : World) (b : Nat) (l : List Ob) (v : Value) : Prop where
 rf : Rf w b [.func (.func 81) #[] #[], v]
 own : w.ownsRow (b + 1) 86 4 v l.length (ocells l)
 lt : b < w.heap.size
theorem SL.below {w w' : World} {b : Nat} {l : List Ob} {v : Value} (h : SL w b l v) (hb : Below w.heap.size w w') : SL w' b l v :=
 ⟨h.rf.below h.lt hb, h.own.kept (grownOfBelow hb none) (blockCases _ _ fun b c1 c2 => by cases c2), Nat.lt_of_lt_of_le h.lt hb.size⟩
def Last (l : List Ob) (E : Ob) : Prop := ∀ k, k < l.length -> cmE (l.getD k onil) E < 0
theorem Last.cuts {l : List Ob} {E : Ob} (h : Last l E) : Cuts l E l.length := ⟨Nat.le_refl _, h, fun k h1 h2 => absurd h2 (by omega)⟩
theorem Last.hit {l : List Ob} {E : Ob} : hit l E l.length = false := by unfold En.hit; simp
def AD (b : Nat) (L : List Ob) (w : World) (e : Ending) (w' : World) : Prop := e = .returned (.tuple #[]) /\ (∃ v', SL w' b L v') /\ Below b w w'
set_option maxRecDepth 20000 in
set_option maxHeartbeats 4000000 in
theorem addEndC (b : Nat) (l : List Ob) (v : Value) (E : Ob) (w : World) (h : SL w b l v) (hn : l.length <= 1048575) (hl : Last l E) :
  Calls Tryz.prog 82 #[.pointer (some ⟨b, 0, none⟩), .agg #[.string E.1, .int .i64 E.2.1, .int .i64 E.2.2.1, .string E.2.2.2]] w fun e w' => AD b (l ++ [E]) w e w' := by
 obtain ⟨va, vc, rfl⟩ := shapeK3 h.own
 have hS := fun W p => searchC va vc l E l.length W p (by omega) hl.cuts
 simp only [Last.hit] at hS
 have hI := fun g W p q r => insertEndC (b + 1) va vc g l E W p (by omega) q r
 clear hl
 obtain ⟨x0, x1, x2, x3⟩ := E
 simp only [] at hS hI ⊢
 obtain ⟨W, hW⟩ : ∃ W, w.alloc (.cells #[.string x0, .int .i64 x1, .int .i64 x2, .string x3] 86) = W := ⟨_, rfl⟩
 have bW : Below w.heap.size w W := by rw [<- hW]; exact allocBelow _ _
 have oW : Rf W w.heap.size [.string x0, .int .i64 x1, .int .i64 x2, .string x3] := by rw [<- hW]; exact Rf.new _ _ _
 have zW : w.heap.size < W.heap.size := by rw [<- hW]; simp
 have h1 := h.below bW
 have k0 := h1.rf.at_ 0 _ rfl
 have k1 := h1.rf.at_ 1 _ rfl
 have m0 := oW.at_ 0 _ rfl
 have m1 := oW.at_ 1 _ rfl
 have m2 := oW.at_ 2 _ rfl
 have m3 := oW.at_ 3 _ rfl
 have hbw := h.lt
 go_enter Tryz.func82, Tryz.ntmps82
 go_wp2_with fail
 go_cut [4, 5] from 6 to 18 (fun s t wx => s = .int .i64 l.length /\ t = .bool false /\ Below W.heap.size W wx)
 case first =>
  have OD : OB W.drew.heap.size W.drew va l := OB.of h1.own
  clear hI h1 oW h hbw hW bW zW
  go_region_held (fun w' => w'.cell? ⟨b, 0, none⟩ = some (.func (.func 81) #[] #[]) /\ w'.cell? ⟨b, 1, none⟩ = some (.slice va l.length vc) /\ w'.cell? ⟨w.heap.size, 0, none⟩ = some (.string x0) /\ w'.cell? ⟨w.heap.size, 1, none⟩ = some (.int .i64 x1) /\ w'.cell? ⟨w.heap.size, 2, none⟩ = some (.int .i64 x2) /\ w'.cell? ⟨w.heap.size, 3, none⟩ = some (.string x3)) (first | with_reducible exact ⟨k0, k1, m0, m1, m2, m3⟩ | with_reducible exact ⟨f0, f1, e0, e1, e2, e3⟩ | exact ⟨k0, k1, m0, m1, m2, m3⟩)
   ((go_at_call 111; refine (hS _ OD).mono ?_; rintro e wb ⟨rfl, bb⟩; have fb := Fr.ofBelow (lo := 0) (hi := 0) bb; have e0 := fb.cell m0 (.inr (Nat.zero_le _)); have e1 := fb.cell m1 (.inr (Nat.zero_le _)); have e2 := fb.cell m2 (.inr (Nat.zero_le _)); have e3 := fb.cell m3 (.inr (Nat.zero_le _)); have f0 := fb.cell k0 (.inr (Nat.zero_le _)); have f1 := fb.cell k1 (.inr (Nat.zero_le _)); have Bt1 : Below W.heap.size W wb := (below_drew (Below.refl _ _)).trans bb))
  all_goals (go_wp2_with fail; go_meet; exact ⟨rfl, rfl, Bt1⟩)
 case rest =>
 obtain ⟨rfl, rfl, hB⟩ := hcut
 have h2 := h1.below hB
 have o2 := oW.below zW hB
 have k1 := h2.rf.at_ 1 _ rfl
 have fz := h2.rf.fz 1
 have m0 := o2.at_ 0 _ rfl
 have m1 := o2.at_ 1 _ rfl
 have m2 := o2.at_ 2 _ rfl
 have m3 := o2.at_ 3 _ rfl
 have BA : Below b w wc := ((bW.trans (hB.mono bW.size)).mono (Nat.le_of_lt hbw))
 have hbc : b + 1 <= wc.heap.size := h2.lt
 obtain ⟨V, hV⟩ : ∃ V, wc.alloc (.cells #[.string x0, .int .i64 x1, .int .i64 x2, .string x3] 86) = V := ⟨_, rfl⟩
 have nw := newE wc (x0, x1, x2, x3)
 have bV : Below wc.heap.size wc V := by rw [<- hV]; exact allocBelow _ _
 simp only [] at nw
 rw [hV] at nw
 have h3 := h2.below bV
 have hII := hI wc.heap.size V.drew h3.own.drew nw h3.lt
 have BV : Below b w V := BA.trans (bV.mono (by omega))
 have R3 := h3.rf
 have zV := h3.lt
 have hvb : ∀ j, (Value.slice va l.length vc).ownBlock = some j -> b + 1 <= j := fun j hj => (h3.own.lt j hj).1
 clear hS hI h h1 h2 h3 oW o2 bW zW hW hB BA nw bV k0
 go_wp2_with fail
 have hne : some b ≠ (Value.slice va l.length vc).ownBlock := fun e => absurd (hvb b e.symm) (by omega)
 have R3D : Rf V.drew b [.func (.func 81) #[] #[], .slice va l.length vc] := ⟨R3.at_, R3.fz⟩
 have BVD : Below b w V.drew := BV.drew
 have k1V := R3.at_ 1 _ rfl
 have fzV := R3.fz 1
 go_region_with (go_at_call 112; refine hII.mono ?_; rintro e w5 ⟨v5, rfl, o5, g5, _⟩; obtain ⟨ua, uc, rfl⟩ := shapeK3 o5; have R5 := rfGrew R3D g5 hne zV; have c5 := R5.at_ 1 _ rfl; have z5 := R5.fz 1)
 all_goals
  have z6 : b < w5.heap.size := Nat.lt_of_lt_of_le zV g5.size
  have R6 : Rf (w5.setCell ⟨b, 1, none⟩ (.slice ua (l ++ [(x0, x1, x2, x3)]).length uc)) b [.func (.func 81) #[] #[], .slice ua (l ++ [(x0, x1, x2, x3)]).length uc] := R5.set (o := 1) (by simp) _
  have o6 := o5.kept (grownSet w5 b 1 (.slice ua (l ++ [(x0, x1, x2, x3)]).length uc)) (blockCases _ _ fun j c1 c2 => by cases c2; have := (o5.lt _ c1).1; omega)
  have B6 : Below b w (w5.setCell ⟨b, 1, none⟩ (.slice ua (l ++ [(x0, x1, x2, x3)]).length uc)) := (BVD.grown g5 (Nat.le_of_lt zV) (fun j hj => by have := hvb j hj; omega)).setCell (p := ⟨b, 1, none⟩) (Nat.le_refl _) _
  have HF : Hid (AD b (l ++ [(x0, x1, x2, x3)]) w (.returned (.tuple #[])) (w5.setCell ⟨b, 1, none⟩ (.slice ua (l ++ [(x0, x1, x2, x3)]).length uc))) := ⟨rfl, ⟨_, R6, o6, by rw [World.size_setCell]; exact z6⟩, B6⟩
  clear R6 o6 B6 R5 o5 g5 c5 z5 R3 R3D BV BVD
  have hl2 : (l ++ [(x0, x1, x2, x3)]).length = l.length + 1 := by simp
  have HF2 := HF.out
  rw [hl2] at HF2
  have HF3 : Hid (AD b (l ++ [(x0, x1, x2, x3)]) w (.returned (.tuple #[])) (w5.setCell ⟨b, 1, none⟩ (.slice ua (l.length + 1) uc))) := HF2
  clear HF HF2 hl2
  go_wp2
  refine bodyPost_end (results_none rfl _ _ _) rfl ?_
  exact HF3.out
end Go.Proofs.YtcfnkndbhpdfnaaGreatDoor.En
namespace Go.Proofs.YtcfnkndbhpdfnaaGreatDoor.En
open Go.ChangeShapes Go.WideShapes Go.ChangeAt Go.RowKit
set_option maxRecDepth 20000 in
set_option maxHeartbeats 4000000 in
theorem entryAtC (o : Fl.Ob) (s : Int) (w : World) (h0 : o.1.size <= 1048576) (h2 : o.2.2.size <= 1048576) :
  Calls Tryz.prog 83 #[.agg #[.string o.1, .int .i64 o.2.1, .string o.2.2], .int .i64 s] w fun e w' => e = .returned (.agg #[.string o.1, .int .i64 s, .int .i64 o.2.1, .string o.2.2]) /\ Below w.heap.size w w' := by
 obtain ⟨x0, x1, x2⟩ := o
 simp only [] at h0 h2 ⊢
 have hC0 := fun W => cloneS x0 W (by omega)
 have hC2 := fun W => cloneS x2 W (by omega)
 obtain ⟨W, hW⟩ : ∃ W, (w.alloc (.cells #[.string x0, .int .i64 x1, .string x2] 34)).alloc (.cells #[.string ⟨#[]⟩, .int .i64 0, .int .i64 0, .string ⟨#[]⟩] 86) = W := ⟨_, rfl⟩
 have B : Below w.heap.size w W := by rw [<- hW]; exact ((Below.refl _ _).alloc (Nat.le_refl _) _).alloc (by simp) _
 have z1 : w.heap.size + 1 < W.heap.size := by rw [<- hW]; simp
 have ra : Rf (w.alloc (.cells #[.string x0, .int .i64 x1, .string x2] 34)) w.heap.size [.string x0, .int .i64 x1, .string x2] := Rf.new _ _ _
 have ra : Rf W w.heap.size [.string x0, .int .i64 x1, .string x2] := by rw [<- hW]; exact ra.below (by simp) (allocBelow _ _)
 have rb : Rf W (w.heap.size + 1) [.string ⟨#[]⟩, .int .i64 0, .int .i64 0, .string ⟨#[]⟩] := by
  have q : Rf ((w.alloc (.cells #[.string x0, .int .i64 x1, .string x2] 34)).alloc (.cells #[.string ⟨#[]⟩, .int .i64 0, .int .i64 0, .string ⟨#[]⟩] 86)) (w.alloc (.cells #[.string x0, .int .i64 x1, .string x2] 34)).heap.size [.string ⟨#[]⟩, .int .i64 0, .int .i64 0, .string ⟨#[]⟩] := Rf.new _ _ _
  rw [hW, World.size_alloc] at q
  exact q
 have FIN : Hid (∀ V, Below W.heap.size W V -> Hid (Rf V w.heap.size [.string x0, .int .i64 x1, .string x2] /\ Rf V (w.heap.size + 1) [.string ⟨#[]⟩, .int .i64 0, .int .i64 0, .string ⟨#[]⟩] /\ Below w.heap.size w V)) := fun V b => ⟨ra.below (by omega) b, rb.below (by omega) b, B.trans (b.mono B.size)⟩
 have c0 := ra.at_ 0 _ rfl
 have c1 := ra.at_ 1 _ rfl
 have c2 := ra.at_ 2 _ rfl
 clear ra rb B z1
 go_enter Tryz.func83, Tryz.ntmps83
 go_wp2_with fail
 have BD : Below W.heap.size W W.drew := (Below.refl _ _).drew
 go_region_held (fun w' => w'.cell? ⟨w.heap.size, 0, none⟩ = some (.string x0) /\ w'.cell? ⟨w.heap.size, 1, none⟩ = some (.int .i64 x1) /\ w'.cell? ⟨w.heap.size, 2, none⟩ = some (.string x2)) (first | with_reducible exact ⟨c0, c1, c2⟩ | with_reducible exact ⟨d0, d1, d2⟩ | with_reducible exact ⟨e0, e1, e2⟩ | with_reducible exact ⟨s0, s1, s2⟩ | exact ⟨c0, c1, c2⟩)
  ((first
   | (go_at_call 113; have gd := B1; clear gd; refine (hC2 _).mono ?_; rintro e w2 ⟨rfl, b2⟩; have B2 := B1.trans (b2.mono B1.size); obtain ⟨t2, u2, B3⟩ := (FIN.out w2 B2).out; have e0 := t2.at_ 0 _ rfl; have e1 := t2.at_ 1 _ rfl; have e2 := t2.at_ 2 _ rfl; have g0 := u2.at_ 0 _ rfl; have g1 := u2.at_ 1 _ rfl; have g2 := u2.at_ 2 _ rfl; have g3 := u2.at_ 3 _ rfl; have k0 := u2.fz 0; have k1 := u2.fz 1; have k2 := u2.fz 2; have k3 := u2.fz 3; have tS := (((t2.other (b' := w.heap.size + 1) (o := 0) (Nat.ne_of_lt (Nat.lt_succ_self _)) (.string x0)).other (b' := w.heap.size + 1) (o := 1) (Nat.ne_of_lt (Nat.lt_succ_self _)) (.int .i64 s)).other (b' := w.heap.size + 1) (o := 2) (Nat.ne_of_lt (Nat.lt_succ_self _)) (.int .i64 x1)).other (b' := w.heap.size + 1) (o := 3) (Nat.ne_of_lt (Nat.lt_succ_self _)) (.string x2); have s0 := tS.at_ 0 _ rfl; have s1 := tS.at_ 1 _ rfl; have s2 := tS.at_ 2 _ rfl)
   | (go_at_call 113; refine (hC0 _).mono ?_; rintro e w1 ⟨rfl, b1⟩; have B1 := BD.trans b1; obtain ⟨t1, _, _⟩ := (FIN.out w1 B1).out; have d0 := t1.at_ 0 _ rfl; have d1 := t1.at_ 1 _ rfl; have d2 := t1.at_ 2 _ rfl; clear t1)))
 all_goals
  have uS := (((u2.set (o := 0) (by simp) (.string x0)).set (o := 1) (by simp) (.int .i64 s)).set (o := 2) (by simp) (.int .i64 x1)).set (o := 3) (by simp) (.string x2)
  have BV := (((B3.setCell (p := ⟨w.heap.size + 1, 0, none⟩) (Nat.le_succ _) (.string x0)).setCell (p := ⟨w.heap.size + 1, 1, none⟩) (Nat.le_succ _) (.int .i64 s)).setCell (p := ⟨w.heap.size + 1, 2, none⟩) (Nat.le_succ _) (.int .i64 x1)).setCell (p := ⟨w.heap.size + 1, 3, none⟩) (Nat.le_succ _) (.string x2)
  obtain ⟨V, hV⟩ : ∃ V, (((w2.setCell ⟨w.heap.size + 1, 0, none⟩ (.string x0)).setCell ⟨w.heap.size + 1, 1, none⟩ (.int .i64 s)).setCell ⟨w.heap.size + 1, 2, none⟩ (.int .i64 x1)).setCell ⟨w.heap.size + 1, 3, none⟩ (.string x2) = V := ⟨_, rfl⟩
  rw [hV] at uS BV ⊢
  have v0 := uS.at_ 0 _ rfl
  have v1 := uS.at_ 1 _ rfl
  have v2 := uS.at_ 2 _ rfl
  have v3 := uS.at_ 3 _ rfl
  clear FIN t2 u2 tS hV B3 hC0 hC2 uS s0 s1 s2
  go_wp2
  refine bodyPost_ret (v := .agg #[.string x0, .int .i64 s, .int .i64 x1, .string x2]) (by simp [results, Tryz.results83, go_sem, v0, v1, v2, v3]) rfl ⟨rfl, BV⟩
end Go.Proofs.YtcfnkndbhpdfnaaGreatDoor.En
namespace Go.Proofs.YtcfnkndbhpdfnaaGreatDoor.En
open Go.ChangeShapes Go.WideShapes Go.ChangeAt Go.RowKit
theorem nilE (base : Nat) (w : World) : w.ownsRow base 86 4 (.slice none 0 0) ([] : List Ob).length (ocells []) := ⟨rfl, .inl ⟨rfl, rfl⟩⟩
end Go.Proofs.YtcfnkndbhpdfnaaGreatDoor.En
