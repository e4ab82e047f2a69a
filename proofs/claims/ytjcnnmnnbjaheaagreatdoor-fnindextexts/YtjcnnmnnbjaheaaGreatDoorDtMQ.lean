/- The contract of the program's modeOf. No statement is proved here. -/
import Derived.Test.YtjcnnmnnbjaheaaGreatDoorRows
import Derived.Test.YtjcnnmnnbjaheaaGreatDoorLemQ
import Derived.Test.YtjcnnmnnbjaheaaGreatDoorWwCQ
import Derived.Test.YtjcnnmnnbjaheaaGreatDoorTrWQ
import Derived.Test.YtjcnnmnnbjaheaaGreatDoorDtLQ
import Derived.WalkKit
import Derived.ProofKit
import Derived.Below
import Derived.WalkSpells
import Derived.RangeFuncNested
import Derived.RangeFuncCalls
import Derived.OwnWalkIn
import Derived.OrdersIn
import Derived.Deep.RegionHeld
import Derived.Test.YtjcnnmnnbjaheaaGreatDoorDTabQ
import Derived.Test.YtjcnnmnnbjaheaaGreatDoorHkTQ
import Derived.Test.YtjcnnmnnbjaheaaGreatDoorIterQ
import Derived.Test.YtjcnnmnnbjaheaaGreatDoorIdLQ
import Derived.Test.YtjcnnmnnbjaheaaGreatDoorTeLQ
import Derived.Test.YtjcnnmnnbjaheaaGreatDoorJnCQ
import Derived.Deep.RegionWith
import Derived.Deep.QuietTactic
import Derived.BigQuiet
import Derived.Laws.Cover1
import Derived.Deep.CutRange
namespace Go.Proofs.YtjcnnmnnbjaheaaGreatDoor.Te
open Go.ChangeShapes Go.WideShapes Go.ChangeAt Go.RowKit

theorem md_one {s : ByteArray} (h : s = ⟨#[102, 105, 108, 101]⟩) : md s.data.toList = 1 := by subst h; rfl
theorem md_two {s : ByteArray} (h : s = ⟨#[114, 117, 110]⟩) : md s.data.toList = 2 := by subst h; rfl
theorem md_three {s : ByteArray} (h : s = ⟨#[116, 114, 101, 101]⟩) : md s.data.toList = 3 := by subst h; rfl
theorem md_none {s : ByteArray} (h1 : ¬ s = ⟨#[102, 105, 108, 101]⟩) (h2 : ¬ s = ⟨#[114, 117, 110]⟩) (h3 : ¬ s = ⟨#[116, 114, 101, 101]⟩) : md s.data.toList = 0 := by
  have k : ∀ l : List UInt8, s.data.toList = l → s = ⟨l.toArray⟩ := fun l e => by rw [← e]
  unfold md
  rw [if_neg (fun e => h1 (k _ e)), if_neg (fun e => h2 (k _ e)), if_neg (fun e => h3 (k _ e))]
theorem ne_sym {b : ByteArray} {l : List UInt8} (h : ¬ b = ⟨l.toArray⟩) : (l == b.toList) = false := by
  have := beq_bytes_false (a := ⟨l.toArray⟩) (b := b) (fun e => h e.symm)
  rwa [ByteArray.toList_eq] at this
set_option maxHeartbeats 1000000 in
theorem modeOfC (s : ByteArray) (w : World) (hg : MwG w) :
    Calls Tryz.prog 71 #[.string s] w fun e w' => e = .returned (.int .i64 (md s.data.toList)) ∧ w' = w := by
  obtain ⟨c0, c1, c2⟩ := hg
  have q1 := md_one (s := s)
  have q2 := md_two (s := s)
  have q3 := md_three (s := s)
  have q0 := md_none (s := s)
  obtain ⟨M, hM⟩ : ∃ M, md s.data.toList = M := ⟨_, rfl⟩
  rw [hM] at q1 q2 q3 q0 ⊢
  clear hM
  by_cases e1 : s = ⟨#[102, 105, 108, 101]⟩
  · have HM : Hid (M = 1) := q1 e1
    clear q1 q2 q3 q0
    subst e1
    go_enter Tryz.func71, Tryz.ntmps71
    go_wp2
    go_loopw [3, 4] (fun _ i wr => i = .int .i64 0 ∧ wr = w) (fun _ _ _ => 0)
    case atStart => exact ⟨rfl, rfl⟩
    case round =>
      obtain ⟨rfl, rfl⟩ := hrel
      go_wp2
      go_ret
      exact ⟨ret_int HM.out.symm, rfl⟩
  have b1 := ne_sym (l := [102, 105, 108, 101]) e1
  by_cases e2 : s = ⟨#[114, 117, 110]⟩
  · have HM : Hid (M = 2) := q2 e2
    clear q1 q2 q3 q0 e1
    subst e2
    go_enter Tryz.func71, Tryz.ntmps71
    go_wp2
    go_loopw [3, 4] (fun _ i wr => (i = .int .i64 0 ∨ i = .int .i64 1) ∧ wr = w) (fun _ i _ => 2 - (intOf i).toNat)
    case atStart => exact ⟨.inl rfl, rfl⟩
    case round =>
      obtain ⟨rfl | rfl, rfl⟩ := hrel
      · go_wp2
        go_roundw
        case rel => exact ⟨.inr rfl, trivial⟩
        case measure => simp [intOf]
      · go_wp2
        go_ret
        exact ⟨ret_int HM.out.symm, rfl⟩
  have b2 := ne_sym (l := [114, 117, 110]) e2
  by_cases e3 : s = ⟨#[116, 114, 101, 101]⟩
  · have HM : Hid (M = 3) := q3 e3
    clear q1 q2 q3 q0 e1 e2
    subst e3
    go_enter Tryz.func71, Tryz.ntmps71
    go_wp2
    go_loopw [3, 4] (fun _ i wr => (i = .int .i64 0 ∨ i = .int .i64 1 ∨ i = .int .i64 2) ∧ wr = w) (fun _ i _ => 3 - (intOf i).toNat)
    case atStart => exact ⟨.inl rfl, rfl⟩
    case round =>
      obtain ⟨rfl | rfl | rfl, rfl⟩ := hrel
      · go_wp2
        go_roundw
        case rel => exact ⟨.inr (.inl rfl), trivial⟩
        case measure => simp [intOf]
      · go_wp2
        go_roundw
        case rel => exact ⟨.inr (.inr rfl), trivial⟩
        case measure => simp [intOf]
      · go_wp2
        go_ret
        exact ⟨ret_int HM.out.symm, rfl⟩
  have b3 := ne_sym (l := [116, 114, 101, 101]) e3
  have HM : Hid (M = 0) := q0 e1 e2 e3
  clear q1 q2 q3 q0 e1 e2 e3
  go_enter Tryz.func71, Tryz.ntmps71
  go_wp2
  go_loopw [3, 4] (fun _ i wr => (i = .int .i64 0 ∨ i = .int .i64 1 ∨ i = .int .i64 2 ∨ i = .int .i64 3) ∧ wr = w) (fun _ i _ => 3 - (intOf i).toNat)
  case atStart => exact ⟨.inl rfl, rfl⟩
  case round =>
    obtain ⟨rfl | rfl | rfl | rfl, rfl⟩ := hrel
    · go_wp2
      go_roundw
      case rel => exact ⟨.inr (.inl rfl), trivial⟩
      case measure => simp [intOf]
    · go_wp2
      go_roundw
      case rel => exact ⟨.inr (.inr (.inl rfl)), trivial⟩
      case measure => simp [intOf]
    · go_wp2
      go_roundw
      case rel => exact ⟨.inr (.inr (.inr rfl)), trivial⟩
      case measure => simp [intOf]
    · go_wp2
      go_ret
      exact ⟨ret_int HM.out.symm, rfl⟩
end Go.Proofs.YtjcnnmnnbjaheaaGreatDoor.Te
/- A region that draws its order, inside a round of a range over a function: walked as outside of it, its loads first. No statement is proved here. -/
namespace Go.Proofs.YtjcnnmnnbjaheaaGreatDoor
open Go.RowKit

def noOut (Q : Exit → Act → World → Prop) (e : Exit) (a : Act) (w : World) : Prop := e ≠ .outgrown ∧ Q e a w
theorem not_out (Q : Exit → Act → World → Prop) : ¬ LetsOut (noOut Q) := fun ⟨_, _, h⟩ => h.1 rfl
theorem op_round {P : Program} {o : Oper} {l n : Nat} {a : Act} {w : World} {K K' : Act → World → Prop} {Q : Exit → Act → World → Prop} (hd : ∀ c, o.op ≠ .defer c) (hK : ∀ a w, K a w → K' a w)
    (h : o.wp P a w K (noOut Q)) : o.wpIn (Fence.wide.inRound l) n P a w K' Q := by
  refine ⟨fun _ _ => trivial, ?_⟩
  rw [Oper.semAt_plain _ _ _ hd]
  unfold Oper.wp at h
  generalize (execOp a.eval o).run P w = r at h ⊢
  have he : ∀ (f : FuncId) (args : Array Value) (w' : World), Calls P f args w' (fun
      | .returned v, w'' => K (a.put o.dst v) w''
      | .panicked chain, w'' => noOut Q (.panic chain) a w''
      | .outgrown, _ => LetsOut (noOut Q)) → CallsIn (Fence.wide.inRound l) (n - 1) P f args w' fun
      | .returned v, w'' => K' (a.put o.dst v) w''
      | .panicked chain, w'' => Q (.panic chain) a w''
      | .outgrown, _ => LetsOut Q := fun f args w' hc => CallsIn.inRound l (callsIn_wide.2 (hc.mono fun e w'' q => by
    cases e with
    | returned v => exact hK _ _ q
    | panicked c => exact q.2
    | outgrown => exact absurd q (not_out Q)))
  cases r with
  | ok x w' =>
    cases x with
    | value v => exact hK _ _ h
    | skip => exact hK _ _ h
    | defer d => exact hK _ _ h
    | enter f args => exact ⟨fun e => (by cases e), he f args w' h⟩
    | row row args => exact ⟨fun e => (by cases e), fun c cs _ => let ⟨v, w', r, s⟩ := h c cs; ⟨v, w', hK _ _ r, stepsIn_wide.2 s⟩⟩
    | round => exact h.elim
    | _ => exact h.elim
  | halt x w' =>
    cases x with
    | panic v => exact h.2
    | _ => exact h.elim
theorem any_round {P : Program} {md : Region.Mode} {ops : Array Oper} {l n : Nat} {Q : Exit → Act → World → Prop} (hd : ∀ (i : Nat) (o : Oper), ops[i]? = some o → ∀ c, o.op ≠ .defer c) :
    ∀ (fuel : Nat) (listed : Array Bool) (a : Act) (w : World), wpAny P md ops (noOut Q) fuel listed a w → wpAnyIn (Fence.wide.inRound l) n P md ops Q fuel listed a w
  | 0, _, _, _, h => ⟨h.1, h.2.2⟩
  | fuel + 1, listed, a, w, h => ⟨fun e => (h.1 e).2, fun i hi => by
    have h2 := h.2 i hi
    unfold wpOp at h2
    unfold wpOpIn
    cases e : ops[i]? with
    | none => rw [e] at h2; exact any_round hd fuel _ a w h2
    | some o =>
      rw [e] at h2
      simp only at h2 ⊢
      split
      · rename_i hw
        rw [if_pos hw] at h2
        rcases h2 with h2 | h2
        · exact op_round (hd i o e) (fun a' w' q => any_round hd fuel _ a' w' q) h2
        · exact absurd h2.2 (not_out Q)
      · rename_i hw
        rw [if_neg hw] at h2
        exact ⟨fun _ _ => trivial, any_round hd fuel _ _ w h2⟩⟩
/-- No operation of a region is a defer statement. -/
def noDefer (ops : Array Oper) : Bool := ops.all fun o => match o.op with
  | .defer _ => false
  | _ => true
theorem noDefer_spec {ops : Array Oper} (h : noDefer ops = true) (i : Nat) (o : Oper) (hi : ops[i]? = some o) (c : Call) : o.op ≠ .defer c := fun e => by
  have h1 := Array.all_eq_true'.1 h o (Array.mem_of_getElem? hi)
  rw [e] at h1
  cases h1
theorem region_round {P : Program} {ops : Array Oper} {l n id : Nat} {Q : Exit → Act → World → Prop} {S : World → Prop} {a : Act} {w : World} (hm : P.follows .mixedOrders = true) (hd : noDefer ops = true) (hS : S w.drew)
    (h : S w.drew → wpAnyH P .any ops (noOut Q) S ops.size (Array.replicate ops.size false) a w.drew) : (Code.region id ops true).wpIn (Fence.wide.inRound l) n P Q a w :=
  wpIn_region_any hm (any_round (noDefer_spec hd) _ _ _ _ (wpAny_of_held _ _ _ _ (h hS)))
end Go.Proofs.YtjcnnmnnbjaheaaGreatDoor
/- The contract of the program's writeTree, walked. No statement is proved here. -/
namespace Go.Proofs.YtjcnnmnnbjaheaaGreatDoor.Te
open Go.ChangeShapes Go.WideShapes Go.ChangeAt Go.RowKit

theorem obB {B : Nat} {w w' : World} {a : Option Addr} {l : List Ob} (h : OB B w a l) (hb : Below B w w') : OB B w' a l := fun k hk => by
  obtain ⟨g, off, e, hg, d0, d1, d2⟩ := h k hk
  exact ⟨g, off, e, hg, (hb.cell (p := ⟨g, off + k * 3, none⟩) hg).trans d0, (hb.cell (p := ⟨g, off + k * 3 + 1, none⟩) hg).trans d1, (hb.cell (p := ⟨g, off + k * 3 + 2, none⟩) hg).trans d2⟩
theorem keepC {w w1 : World} {g o : Nat} {v : Value} (b : Below w.heap.size w w1) (h : w.cell? ⟨g, o, none⟩ = some v) : w1.cell? ⟨g, o, none⟩ = some v := (b.cell (p := ⟨g, o, none⟩) (cellLt h)).trans h
end Go.Proofs.YtjcnnmnnbjaheaaGreatDoor.Te
