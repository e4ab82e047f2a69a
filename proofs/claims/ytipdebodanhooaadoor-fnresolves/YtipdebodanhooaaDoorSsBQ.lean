/- The program's sorted list of texts: the library's binary search. No statement is proved here. -/
import Derived.Test.YtipdebodanhooaaDoorRows
import Derived.Test.YtipdebodanhooaaDoorLemQ
import Derived.Test.YtipdebodanhooaaDoorDTabQ
import Derived.Test.YtipdebodanhooaaDoorHkTQ
import Derived.Test.YtipdebodanhooaaDoorWvCQ
import Derived.Test.YtipdebodanhooaaDoorEnLQ
import Derived.Test.YtipdebodanhooaaDoorIxMQ
import Derived.Test.YtipdebodanhooaaDoorIxNQ
import Derived.Test.YtipdebodanhooaaDoorIxOQ
import Derived.Test.YtipdebodanhooaaDoorSgCQ
import Derived.Test.YtipdebodanhooaaDoorShelfCQ
import Derived.WalkKit
import Derived.ProofKit
import Derived.Below
import Derived.WalkSpells
import Derived.Deep.QuietTactic
import Derived.BigQuiet
import Derived.Deep.RegionWith
import Derived.Deep.RegionHeld
import Derived.Deep.CutRange
import Derived.Maps.AppendAt
import Derived.Laws.Cover1
namespace Go.Proofs.YtipdebodanhooaaDoor.En
open Go.ChangeShapes Go.WideShapes Go.ChangeAt Go.RowKit

def CutsS (l : List ByteArray) (T : ByteArray) (p : Nat) : Prop := p ≤ l.length ∧ (∀ k, k < p → cmB (l.getD k ByteArray.empty) T < 0) ∧ (∀ k, p ≤ k → k < l.length → 0 ≤ cmB (l.getD k ByteArray.empty) T)
def hitS (l : List ByteArray) (T : ByteArray) (p : Nat) : Bool := decide (p < l.length) && (cmB (l.getD p ByteArray.empty) T == 0)
/-- A row of texts that is owned can be read. -/
theorem rowS {w : World} {base : Nat} {a : Option Addr} {c : Nat} {l : List ByteArray} (h : w.ownsRow base 9 1 (.slice a l.length c) l.length (l.map Value.string)) (k : Nat) (hk : k < l.length) : ∃ g, a = some ⟨g, 0, none⟩ ∧ w.cell? ⟨g, k, none⟩ = some (.string (l.getD k ByteArray.empty)) ∧ w.frozen? ⟨g, k, none⟩ = false := by
  rcases h.2 with ⟨h', h0⟩ | ⟨g, cap, cur, h', _⟩
  · omega
  · simp only [Value.slice.injEq] at h'
    obtain ⟨rfl, _, rfl⟩ := h'
    refine ⟨g, rfl, ?_, h.frozenAt k⟩
    rw [h.cellAt k (by omega)]
    simp [List.getD, hk]
set_option maxRecDepth 20000 in
set_option maxHeartbeats 4000000 in
theorem searchS (base : Nat) (a : Option Addr) (c : Nat) (l : List ByteArray) (T : ByteArray) (p : Nat) (w : World) (h : w.ownsRow base 9 1 (.slice a l.length c) l.length (l.map Value.string)) (hn : l.length ≤ 1048576) (hp : CutsS l T p) :
    Calls Tryd.prog 51 #[.slice a l.length c, .string T, .func (.func 48) #[] #[]] w fun e w' => e = .returned (.tuple #[.int .i64 p, .bool (hitS l T p)]) ∧ w' = w := by
  obtain ⟨hpn, hlo, hhi⟩ := hp
  have hL : Hid (∀ k, k < p → cmB (l.getD k ByteArray.empty) T < 0) := hlo
  have hH : Hid (∀ k, p ≤ k → k < l.length → 0 ≤ cmB (l.getD k ByteArray.empty) T) := hhi
  clear hlo hhi
  go_enter Tryd.func51, Tryd.ntmps51
  go_wp2
  go_loopw [9, 10, 11] (fun vi vj _h wr => ∃ i j : Nat, i ≤ p ∧ p ≤ j ∧ j ≤ l.length ∧ vi = .int .i64 i ∧ vj = .int .i64 j ∧ wr = w) (fun vi vj _ _ => (intOf vj).toNat - (intOf vi).toNat)
  case atStart => exact ⟨0, l.length, Nat.zero_le _, hpn, Nat.le_refl _, rfl, rfl, rfl⟩
  case round =>
    obtain ⟨i, j, hi, hj, hjl, rfl, rfl, rfl⟩ := hrel
    have h3 := h
    by_cases hlt : i < j
    · have q : (i : Int) < (j : Int) := by omega
      obtain ⟨m, hm⟩ : ∃ m, (i + j) / 2 = m := ⟨_, rfl⟩
      have hmj : m < j := by omega
      have him : i ≤ m := by omega
      obtain ⟨g, e, d0, _⟩ := rowS h3 m (by omega)
      subst e
      have hc1 : m < p → cmB (l.getD m ByteArray.empty) T < 0 := fun q => hL.out m q
      have hc2 : p ≤ m → 0 ≤ cmB (l.getD m ByteArray.empty) T := fun q => hH.out m q (by omega)
      obtain ⟨X, hXe⟩ : ∃ X, l.getD m ByteArray.empty = X := ⟨_, rfl⟩
      rw [hXe] at d0 hc1 hc2
      have hB := fun W => Tryd.strings_Compare X T W
      have hcb : cmB X T = Lib.compareBytes X.data.toList T.data.toList := rfl
      rw [← hcb] at hB
      clear hcb
      obtain ⟨K, hK⟩ : ∃ K, cmB X T = K := ⟨_, rfl⟩
      rw [hK] at hc1 hc2 hB
      have hmI : (m : Int) < (l.length : Int) := by omega
      have hme : ((i : Int) + (j : Int)) / 2 = (m : Int) := by omega
      have HM : Hid (i ≤ m ∧ m < j) := ⟨him, hmj⟩
      clear hXe hK hm him hmj h3
      by_cases hK0 : K < 0
      · have hmp : m < p := by
          rcases Nat.lt_or_ge m p with q | q
          · exact q
          · exact absurd hK0 (by have := hc2 q; omega)
        clear hc1 hc2 hL hH
        go_wp2_with fail
        refine (hB _).mono ?_; rintro e w9 ⟨rfl, rfl⟩
        go_wp2
        obtain ⟨him, hmj⟩ := HM.out
        go_roundw
        case rel => exact ⟨m + 1, j, by omega, hj, hjl, by go_num, by first | rfl | trivial, by first | rfl | trivial⟩
        case measure => simp [intOf]; omega
      · have hmp : p ≤ m := by
          rcases Nat.lt_or_ge m p with q | q
          · exact absurd (hc1 q) hK0
          · exact q
        clear hc1 hc2 hL hH
        go_wp2_with fail
        refine (hB _).mono ?_; rintro e w9 ⟨rfl, rfl⟩
        go_wp2
        obtain ⟨him, hmj⟩ := HM.out
        go_roundw
        case rel => exact ⟨i, m, hi, hmp, by omega, by first | rfl | trivial, by first | rfl | trivial, by first | rfl | trivial⟩
        case measure => simp [intOf]; omega
    · have q : ¬ (i : Int) < (j : Int) := by omega
      have ei : i = p := by omega
      subst ei
      by_cases hin : i < l.length
      · have qn : (i : Int) < (l.length : Int) := by omega
        obtain ⟨g, e, d0, _⟩ := rowS h3 i hin
        subst e
        have hR : hitS l T i = (cmB (l.getD i ByteArray.empty) T == 0) := by unfold hitS; simp [hin]
        obtain ⟨X, hXe⟩ : ∃ X, l.getD i ByteArray.empty = X := ⟨_, rfl⟩
        rw [hXe] at d0 hR
        have hB := fun W => Tryd.strings_Compare X T W
        have hcb : cmB X T = Lib.compareBytes X.data.toList T.data.toList := rfl
        rw [← hcb] at hB
        clear hcb
        obtain ⟨K, hK⟩ : ∃ K, cmB X T = K := ⟨_, rfl⟩
        rw [hK] at hR hB
        have HR : Hid (hitS l T i = (K == 0)) := hR
        clear hXe hK hR hL hH h3
        go_wp2_with fail
        refine (hB _).mono ?_; rintro e w9 ⟨rfl, rfl⟩
        go_wp2
        refine bodyPost_ret (v := .tuple #[.int .i64 i, .bool (K == 0)]) (by simp [results, Tryd.results51, go_sem]) rfl ?_
        exact ⟨by rw [HR.out], rfl⟩
      · have qn : ¬ (i : Int) < (l.length : Int) := by omega
        have HR : Hid (hitS l T i = false) := by show _ = _; unfold hitS; simp [hin]
        clear hL hH h3
        go_wp2
        refine bodyPost_ret (v := .tuple #[.int .i64 i, .bool false]) (by simp [results, Tryd.results51, go_sem]) rfl ?_
        exact ⟨by rw [HR.out], rfl⟩
end Go.Proofs.YtipdebodanhooaaDoor.En
/- The program's sorted list of texts: a text that is put behind all others, or that is the last one. No statement is proved here. -/
namespace Go.Proofs.YtipdebodanhooaaDoor.En
open Go.ChangeShapes Go.WideShapes Go.ChangeAt Go.RowKit

theorem strInfo : (Tryd.prog.info? 9).map (fun i => (i.zero, i.size, i.bytes)) = some (some (.string ByteArray.empty), 1, 16) := infoString
theorem wpList_appT {w : World} {ops : Array Oper} {rest : List Oper} {o : Oper} {a : Act} {Q : Exit → Act → World → Prop} (hgd : o.guard = none) (s x : Operand)
    (ho : o.op = .call { callee := .builtin .append, args := #[s, x], argTypes := #[33, 33] })
    (base : Nat) (v : Value) (S0 : List ByteArray) (hs : a.eval s = v) (hown : w.ownsRow base 9 1 v S0.length (S0.map Value.string))
    (AD : Addr) (cx : Nat) (S1 : List ByteArray) (hx : a.eval x = .slice (some AD) S1.length cx) (hx2 : ∀ j u, (S1.map Value.string)[j]? = some u → w.cell? (AD.add j) = some u)
    (hb : S0.length + S1.length ≤ 2097152) (hbase : base ≤ w.heap.size)
    (h : ∀ v' w', w'.ownsRow base 9 1 v' (S0 ++ S1).length ((S0 ++ S1).map Value.string) → w.grownBy w' v.ownBlock → (v' = .slice none 0 0 ↔ v = .slice none 0 0 ∧ S1.length = 0) → (v'.ownBlock = v.ownBlock ∨ v'.ownBlock = some w.heap.size) → wpList Tryd.prog ops Q rest (a.put o.dst v') w') :
    wpList Tryd.prog ops Q (o :: rest) a w := by
  obtain ⟨i0, hi, hz0, hz1, hz2⟩ := info_parts strInfo
  refine wpList_append_own_at _ hgd s x _ ho base _ i0 _ 1 16 Tryd.underlying33 hi hz0 hz1 hz2 rfl (by decide) v _ _ hs hown AD S1.length cx (S1.map Value.string) hx (by simp) hx2 (oneStr _) (by unfold maxLen; omega) (by omega) hbase ?_
  intro v' w' o1 g1 n1 k1
  refine h v' w' ?_ g1 n1 k1
  rw [List.length_append, List.map_append]; exact o1
theorem newT (w : World) (x : ByteArray) : ∀ j u, ([x].map Value.string)[j]? = some u → (w.alloc (.cells #[.string x] 9)).cell? ((⟨w.heap.size, 0, none⟩ : Addr).add j) = some u := by
  intro j u hu
  have h := Rs.new w #[.string x] 9 j u hu
  rw [add_plain, Nat.zero_add]
  exact h
/-- A row of texts, grown. -/
def GT (base : Nat) (v : Value) (L : List ByteArray) (w : World) (e : Ending) (w' : World) : Prop := ∃ v', e = .returned v' ∧ w'.ownsRow base 9 1 v' L.length (L.map Value.string) ∧ w.grownBy w' v.ownBlock ∧ (v'.ownBlock = v.ownBlock ∨ v'.ownBlock = some w.heap.size)
set_option maxRecDepth 20000 in
set_option maxHeartbeats 4000000 in
theorem insertEndS (base : Nat) (a : Option Addr) (c g : Nat) (l : List ByteArray) (E : ByteArray) (w : World) (h : w.ownsRow base 9 1 (.slice a l.length c) l.length (l.map Value.string)) (hn : l.length ≤ 1048576)
    (hE : ∀ j u, ([E].map Value.string)[j]? = some u → w.cell? ((⟨g, 0, none⟩ : Addr).add j) = some u) (hb : base ≤ w.heap.size) :
    Calls Tryd.prog 67 #[.slice a l.length c, .int .i64 l.length, .slice (some ⟨g, 0, none⟩) 1 1] w fun e w' => GT base (.slice a l.length c) (l ++ [E]) w e w' := by
  have hq : ((l.length : Int) == (l.length : Int)) = true := by simp
  have hcap : l.length ≤ c ∧ (a = none → l.length = 0 ∧ c = 0) ∧ (∀ x, a = some x → ∃ b, x = ⟨b, 0, none⟩) := by
    rcases h.2 with ⟨h', h0⟩ | ⟨b, cap, cur, h', _, _, h1, _⟩
    · simp only [Value.slice.injEq] at h'
      obtain ⟨rfl, h2, rfl⟩ := h'
      exact ⟨by omega, fun _ => ⟨h2, rfl⟩, fun x e => by cases e⟩
    · simp only [Value.slice.injEq] at h'
      obtain ⟨rfl, _, rfl⟩ := h'
      exact ⟨h1, fun e => (by cases e), fun x e => ⟨b, by cases e; rfl⟩⟩
  obtain ⟨hc1, hc2, hc3⟩ := hcap
  cases a with
  | none =>
    obtain ⟨e1, rfl⟩ := hc2 rfl
    have el : l = [] := List.length_eq_zero_iff.1 e1
    subst el
    go_enter Tryd.func67, Tryd.ntmps67
    go_wp2_with (at_builtin; refine wpList_appT rfl (.tmp 23) (.tmp 24) rfl base _ [] rfl h _ _ [E] rfl hE (by simp) hb ?_; intro v5 w5 o5 g5 n5 k5)
    go_ret
    exact ⟨_, rfl, o5, g5, k5⟩
  | some x =>
    obtain ⟨b, rfl⟩ := hc3 x rfl
    have qI : (l.length : Int) ≤ (c : Int) := by omega
    clear hc2 hc3
    by_cases hcc : c = l.length
    · subst hcc
      go_enter Tryd.func67, Tryd.ntmps67
      go_wp2_with (at_builtin; refine wpList_appT rfl (.tmp 23) (.tmp 24) rfl base (.slice (some ⟨b, 0, none⟩) l.length l.length) _ rfl h _ _ [E] rfl hE (by simp; omega) hb ?_; intro v5 w5 o5 g5 n5 k5)
      go_ret
      exact ⟨_, rfl, o5, g5, k5⟩
    · go_enter Tryd.func67, Tryd.ntmps67
      go_wp2_with (at_builtin; refine wpList_appT rfl (.tmp 23) (.tmp 24) rfl base (.slice (some ⟨b, 0, none⟩) l.length c) _ rfl h _ _ [E] rfl hE (by simp; omega) hb ?_; intro v5 w5 o5 g5 n5 k5)
      go_ret
      exact ⟨_, rfl, o5, g5, k5⟩
theorem rfGrewS {w w' : World} {b : Nat} {vs : List Value} {row : Option Nat} (h : Rf w b vs) (hg : w.grownBy w' row) (hne : some b ≠ row) (hlt : b < w.heap.size) : Rf w' b vs :=
  ⟨fun k v hk => hg.cell (h.at_ k v hk) hne, fun k => by
    have e := hg.block b hlt hne
    have h1 := h.fz k
    unfold World.frozen? at h1 ⊢
    rw [e]; exact h1⟩
/-- A sorted list of texts: its order, its elements, in a block of its own; the row lies in blocks behind. -/
structure ST (w : World) (b : Nat) (l : List ByteArray) (v : Value) : Prop where
  rf : Rf w b [.func (.func 48) #[] #[], v]
  own : w.ownsRow (b + 1) 9 1 v l.length (l.map Value.string)
  lt : b < w.heap.size
theorem ST.below {w w' : World} {b : Nat} {l : List ByteArray} {v : Value} (h : ST w b l v) (hb : Below w.heap.size w w') : ST w' b l v :=
  ⟨h.rf.below h.lt hb, h.own.kept (grownOfBelow hb none) (blockCases _ _ fun b c1 c2 => by cases c2), Nat.lt_of_lt_of_le h.lt hb.size⟩
/-- Behind all of a list; or the last of it. -/
def LastS (l : List ByteArray) (E : ByteArray) : Prop := ∀ k, k < l.length → cmB (l.getD k ByteArray.empty) E < 0
theorem LastS.cuts {l : List ByteArray} {E : ByteArray} (h : LastS l E) : CutsS l E l.length := ⟨Nat.le_refl _, h, fun k h1 h2 => absurd h2 (by omega)⟩
theorem LastS.hit {l : List ByteArray} {E : ByteArray} : hitS l E l.length = false := by unfold hitS; simp
theorem sameS_cuts {l : List ByteArray} {E : ByteArray} (h : LastS l E) : CutsS (l ++ [E]) E l.length ∧ hitS (l ++ [E]) E l.length = true := by
  have e : (l ++ [E]).getD l.length ByteArray.empty = E := by simp [List.getD]
  refine ⟨⟨by simp, fun k hk => ?_, fun k h1 h2 => ?_⟩, ?_⟩
  · have : (l ++ [E]).getD k ByteArray.empty = l.getD k ByteArray.empty := by simp [List.getD, List.getElem?_append_left hk]
    rw [this]; exact h k hk
  · have hk : k = l.length := by simp at h2; omega
    rw [hk, e, cmB_zero.2 rfl]; omega
  · unfold hitS
    rw [e, cmB_zero.2 rfl]; simp
/-- What add leaves. -/
def AT (b : Nat) (L : List ByteArray) (w : World) (e : Ending) (w' : World) : Prop := e = .returned (.tuple #[]) ∧ (∃ v', ST w' b L v') ∧ Below b w w'
set_option maxRecDepth 20000 in
set_option maxHeartbeats 4000000 in
theorem addSameS (b : Nat) (l : List ByteArray) (v : Value) (E : ByteArray) (w : World) (h : ST w b (l ++ [E]) v) (hn : l.length ≤ 1048570) (hl : LastS l E) :
    Calls Tryd.prog 49 #[.pointer (some ⟨b, 0, none⟩), .string E] w fun e w' => AT b (l ++ [E]) w e w' := by
  obtain ⟨va, vc, rfl⟩ := shapeK3 h.own
  obtain ⟨q1, q2⟩ := sameS_cuts hl
  have hS := fun W p => searchS (b + 1) va vc (l ++ [E]) E l.length W p (by simp; omega) q1
  rw [q2] at hS
  clear q1 q2 hl
  have hLn : l.length < (l ++ [E]).length := by simp
  obtain ⟨g, eg, cg, fg⟩ := rowS h.own l.length hLn
  subst eg
  have e2 : (l ++ [E]).getD l.length ByteArray.empty = E := by simp [List.getD]
  rw [e2] at cg
  have k0 := h.rf.at_ 0 _ rfl
  have k1 := h.rf.at_ 1 _ rfl
  have sid := setCell_id cg
  obtain ⟨L, hL⟩ : ∃ L, l ++ [E] = L := ⟨_, rfl⟩
  rw [hL] at h hS k1 hLn ⊢
  have hLI : (l.length : Int) < (L.length : Int) := by omega
  have how := h.own
  have HH : Hid (∀ n, AT b L w (.returned (.tuple #[])) (w.drewN n)) := fun n => ⟨rfl, ⟨_, ⟨h.rf.at_, h.rf.fz⟩, h.own, h.lt⟩, below_drewN' (Below.refl _ _) _⟩
  have CG : Hid (w.cell? ⟨g, l.length, none⟩ = some (.string E)) := cg
  clear hL e2 h sid
  go_enter Tryd.func49, Tryd.ntmps49
  go_wp2_with fail
  go_quiet ((go_at_call 51; exact quietS (hS _ how)))
  have sid := setCell_id (w := w.drewN nq) CG.out
  clear hS how
  go_wp2
  refine bodyPost_ret (results_none rfl _ _ _) rfl ?_
  exact HH.out nq
set_option maxRecDepth 20000 in
set_option maxHeartbeats 4000000 in
theorem addEndS (b : Nat) (l : List ByteArray) (v : Value) (E : ByteArray) (w : World) (h : ST w b l v) (hn : l.length ≤ 1048570) (hl : LastS l E) :
    Calls Tryd.prog 49 #[.pointer (some ⟨b, 0, none⟩), .string E] w fun e w' => AT b (l ++ [E]) w e w' := by
  obtain ⟨va, vc, rfl⟩ := shapeK3 h.own
  have hS := fun W p => searchS (b + 1) va vc l E l.length W p (by omega) hl.cuts
  simp only [LastS.hit] at hS
  have hI := fun g W p q r => insertEndS (b + 1) va vc g l E W p (by omega) q r
  clear hl
  have k0 := h.rf.at_ 0 _ rfl
  have k1 := h.rf.at_ 1 _ rfl
  have how := h.own
  go_enter Tryd.func49, Tryd.ntmps49
  go_wp2_with fail
  go_quiet ((go_at_call 51; exact quietS (hS _ how)))
  have hN : ST (w.drewN nq) b l (.slice va l.length vc) := ⟨⟨h.rf.at_, h.rf.fz⟩, h.own, h.lt⟩
  have BN : Below b w (w.drewN nq) := below_drewN' (Below.refl _ _) _
  clear hS how h k0 k1
  obtain ⟨W, hW⟩ : ∃ W, w.drewN nq = W := ⟨_, rfl⟩
  rw [hW] at hN BN ⊢
  clear hW
  have k1 := hN.rf.at_ 1 _ rfl
  have fz := hN.rf.fz 1
  have hbc : b + 1 ≤ W.heap.size := hN.lt
  obtain ⟨V, hV⟩ : ∃ V, W.alloc (.cells #[.string E] 9) = V := ⟨_, rfl⟩
  have nw := newT W E
  rw [hV] at nw
  have bV : Below W.heap.size W V := by rw [← hV]; exact allocBelow _ _
  have h3 := hN.below bV
  have hII := fun U (p : U.ownsRow (b + 1) 9 1 (.slice va l.length vc) l.length (l.map Value.string)) q r => hI W.heap.size U p q r
  have BV : Below b w V := BN.trans (bV.mono (by omega))
  have R3 := h3.rf
  have zV := h3.lt
  have oV := h3.own
  have hvb : ∀ j, (Value.slice va l.length vc).ownBlock = some j → b + 1 ≤ j := fun j hj => (oV.lt j hj).1
  have hne : some b ≠ (Value.slice va l.length vc).ownBlock := fun e => absurd (hvb b e.symm) (by omega)
  have k1V := R3.at_ 1 _ rfl
  have fzV := R3.fz 1
  clear hN h3 bV BN hI
  go_wp2_with fail
  refine (hII V oV nw zV).mono ?_; rintro e w5 ⟨v5, rfl, o5, g5, _⟩
  obtain ⟨ua, uc, rfl⟩ := shapeK3 o5
  have R5 := rfGrewS R3 g5 hne zV
  have c5 := R5.at_ 1 _ rfl
  have z5 := R5.fz 1
  have z6 : b < w5.heap.size := Nat.lt_of_lt_of_le zV g5.size
  have hl2 : (l ++ [E]).length = l.length + 1 := by simp
  have R6 : Rf (w5.setCell ⟨b, 1, none⟩ (.slice ua (l ++ [E]).length uc)) b [.func (.func 48) #[] #[], .slice ua (l ++ [E]).length uc] := R5.set (o := 1) (by simp) _
  have o6 := o5.kept (grownSet w5 b 1 (.slice ua (l ++ [E]).length uc)) (blockCases _ _ fun j c1 c2 => by cases c2; have := (o5.lt _ c1).1; omega)
  have B6 : Below b w (w5.setCell ⟨b, 1, none⟩ (.slice ua (l ++ [E]).length uc)) := (BV.grown g5 (Nat.le_of_lt zV) (fun j hj => by have := hvb j hj; omega)).setCell (p := ⟨b, 1, none⟩) (Nat.le_refl _) _
  have HF : Hid (AT b (l ++ [E]) w (.returned (.tuple #[])) (w5.setCell ⟨b, 1, none⟩ (.slice ua (l ++ [E]).length uc))) := ⟨rfl, ⟨_, R6, o6, by rw [World.size_setCell]; exact z6⟩, B6⟩
  have HF2 := HF.out
  rw [hl2] at HF2
  have HF3 : Hid (AT b (l ++ [E]) w (.returned (.tuple #[])) (w5.setCell ⟨b, 1, none⟩ (.slice ua (l.length + 1) uc))) := HF2
  clear R6 o6 B6 R5 o5 g5 R3 BV HF HF2 hl2 hII nw oV k1 fz k1V fzV
  go_wp2
  go_end0
  exact HF3.out
end Go.Proofs.YtipdebodanhooaaDoor.En
/- The paths that clash in an index: each once, rising. Plain mathematics. No statement is proved here. -/
namespace Go.Proofs.YtipdebodanhooaaDoor.En
open Go.ChangeShapes Go.WideShapes Go.ChangeAt Go.RowKit

/-- One entry more. -/
def clS (c : List ByteArray) (o : Ob) : List ByteArray := if o.2.1 = 0 then c else if c.getLast? = some o.1 then c else c ++ [o.1]
def cl (l : List Ob) : List ByteArray := l.foldl clS []
theorem cl_take (l : List Ob) (k : Nat) (h : k < l.length) : cl (l.take (k + 1)) = clS (cl (l.take k)) (l.getD k onil) := by
  unfold cl
  rw [ob_take l k h, List.foldl_append]; rfl
theorem clS_zero {c : List ByteArray} {o : Ob} (h : o.2.1 = 0) : clS c o = c := if_pos h
theorem clS_len (c : List ByteArray) (o : Ob) : (clS c o).length ≤ c.length + 1 := by
  unfold clS
  split
  · omega
  · split
    · omega
    · simp
theorem cl_len (l : List Ob) : ∀ k, (cl (l.take k)).length ≤ k := by
  intro k
  induction k with
  | zero => simp [cl]
  | succ k ih =>
    by_cases h : k < l.length
    · rw [cl_take l k h]
      have := clS_len (cl (l.take k)) (l.getD k onil)
      omega
    · rw [List.take_of_length_le (by omega)]
      rw [List.take_of_length_le (by omega)] at ih
      omega
def Srt (c : List ByteArray) : Prop := ∀ i j, i < j → j < c.length → cmB (c.getD i ByteArray.empty) (c.getD j ByteArray.empty) < 0
theorem cl_step {c : List ByteArray} {o : Ob} (hs : Srt c) (hc : ∀ k, k < c.length → cmB (c.getD k ByteArray.empty) o.1 < 0 ∨ c.getD k ByteArray.empty = o.1) (ho : ¬ o.2.1 = 0) :
    (∃ i, c = i ++ [o.1] ∧ LastS i o.1 ∧ clS c o = c) ∨ (LastS c o.1 ∧ clS c o = c ++ [o.1]) := by
  by_cases hl : c.getLast? = some o.1
  · left
    obtain ⟨i, rfl⟩ := List.getLast?_eq_some_iff.1 hl
    refine ⟨i, rfl, fun k hk => ?_, by unfold clS; rw [if_neg ho, if_pos hl]⟩
    have := hs k i.length hk (by simp)
    have e1 : (i ++ [o.1]).getD k ByteArray.empty = i.getD k ByteArray.empty := by simp [List.getD, List.getElem?_append_left hk]
    have e2 : (i ++ [o.1]).getD i.length ByteArray.empty = o.1 := by simp [List.getD]
    rw [e1, e2] at this
    exact this
  · right
    refine ⟨fun k hk => ?_, by unfold clS; rw [if_neg ho, if_neg hl]⟩
    rcases hc k hk with q | q
    · exact q
    · exfalso
      by_cases hk2 : k + 1 = c.length
      · apply hl
        rw [List.getLast?_eq_getElem?]
        have : c.length - 1 = k := by omega
        rw [this]
        have e : c.getD k ByteArray.empty = c[k] := by simp [List.getD, hk]
        rw [List.getElem?_eq_getElem hk, ← e, q]
      · have h1 := hs k (c.length - 1) (by omega) (by omega)
        rw [q] at h1
        rcases hc (c.length - 1) (by omega) with q2 | q2
        · have := cmB_trans h1 q2
          rw [cmB_zero.2 rfl] at this; omega
        · rw [q2, cmB_zero.2 rfl] at h1; omega
theorem getD_snoc (c : List ByteArray) (x : ByteArray) (k : Nat) : (c ++ [x]).getD k ByteArray.empty = if k < c.length then c.getD k ByteArray.empty else if k = c.length then x else ByteArray.empty := by
  by_cases h : k < c.length
  · rw [if_pos h]; simp [List.getD, List.getElem?_append_left h]
  · rw [if_neg h]
    by_cases e : k = c.length
    · subst e; simp [List.getD]
    · rw [if_neg e]
      simp [List.getD, List.getElem?_eq_none (show (c ++ [x]).length ≤ k by simp; omega)]
/-- Of the entries up to place k: they rise, and each is a path ahead of k. -/
theorem cl_inv {l : List Ob} (h : ixf l = 0) : ∀ k, k ≤ l.length → Srt (cl (l.take k)) ∧ ∀ i, i < (cl (l.take k)).length → ∃ j, j < k ∧ (cl (l.take k)).getD i ByteArray.empty = (l.getD j onil).1 ∧ ¬ (l.getD j onil).2.1 = 0 := by
  intro k
  induction k with
  | zero => intro _; exact ⟨fun i j _ hj => by simp [cl] at hj, fun i hi => by simp [cl] at hi⟩
  | succ k ih =>
    intro hk
    obtain ⟨h1, h2⟩ := ih (by omega)
    rw [cl_take l k (by omega)]
    by_cases ho : (l.getD k onil).2.1 = 0
    · rw [clS_zero ho]
      refine ⟨h1, fun i hi => ?_⟩
      obtain ⟨j, a, b, c⟩ := h2 i hi
      exact ⟨j, by omega, b, c⟩
    · have hc : ∀ i, i < (cl (l.take k)).length → cmB ((cl (l.take k)).getD i ByteArray.empty) (l.getD k onil).1 < 0 ∨ (cl (l.take k)).getD i ByteArray.empty = (l.getD k onil).1 := fun i hi => by
        obtain ⟨j, a, b, _⟩ := h2 i hi
        have := ix_rises h k j a (by omega)
        rw [cmE_lt] at this
        rw [b]
        rcases this with q | ⟨q, _⟩
        · exact .inl q
        · exact .inr q
      rcases cl_step h1 hc ho with ⟨i, e1, e2, e3⟩ | ⟨e1, e2⟩
      · rw [e3]
        refine ⟨h1, fun i hi => ?_⟩
        obtain ⟨j, a, b, c⟩ := h2 i hi
        exact ⟨j, by omega, b, c⟩
      · rw [e2]
        refine ⟨fun i j hij hj => ?_, fun i hi => ?_⟩
        · rw [List.length_append, List.length_singleton] at hj
          rw [getD_snoc, getD_snoc, if_pos (by omega)]
          by_cases q : j < (cl (l.take k)).length
          · rw [if_pos q]; exact h1 i j hij q
          · rw [if_neg q, if_pos (by omega)]; exact e1 i (by omega)
        · rw [List.length_append, List.length_singleton] at hi
          rw [getD_snoc]
          by_cases q : i < (cl (l.take k)).length
          · rw [if_pos q]
            obtain ⟨j, a, b, c⟩ := h2 i q
            exact ⟨j, by omega, b, c⟩
          · rw [if_neg q, if_pos (by omega)]
            exact ⟨k, by omega, rfl, ho⟩
/-- What one entry more does. -/
theorem cl_next {l : List Ob} (h : ixf l = 0) {k : Nat} (hk : k < l.length) (ho : ¬ (l.getD k onil).2.1 = 0) :
    (∃ i, cl (l.take k) = i ++ [(l.getD k onil).1] ∧ LastS i (l.getD k onil).1 ∧ cl (l.take (k + 1)) = cl (l.take k)) ∨ (LastS (cl (l.take k)) (l.getD k onil).1 ∧ cl (l.take (k + 1)) = cl (l.take k) ++ [(l.getD k onil).1]) := by
  obtain ⟨h1, h2⟩ := cl_inv h k (by omega)
  rw [cl_take l k hk]
  refine cl_step h1 (fun i hi => ?_) ho
  obtain ⟨j, a, b, _⟩ := h2 i hi
  have := ix_rises h k j a hk
  rw [cmE_lt] at this
  rw [b]
  rcases this with q | ⟨q, _⟩
  · exact .inl q
  · exact .inr q
end Go.Proofs.YtipdebodanhooaaDoor.En
