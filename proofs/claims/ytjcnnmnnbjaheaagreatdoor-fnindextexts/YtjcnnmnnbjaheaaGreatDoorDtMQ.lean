/- The contract of the program's modeOf. No statement is proved here. -/
import Derived.Test.YtjcnnmnnbjaheaaGreatDoorRows
import Derived.Test.YtjcnnmnnbjaheaaGreatDoorLemQ
import Derived.Test.YtjcnnmnnbjaheaaGreatDoorWwCQ
import Derived.Test.YtjcnnmnnbjaheaaGreatDoorTrWQ
import Derived.Test.YtjcnnmnnbjaheaaGreatDoorDtLQ
import Derived.WalkKit
import Derived.ProofKit
import Derived.Below
import Derived.WalkSpells
import Derived.Laws.Concat
import Derived.Laws.IdiomStrings
import Derived.Deep.QuietTactic
import Derived.BigQuiet
import Derived.RangeFuncNested
import Derived.RangeFuncCalls
import Derived.OwnWalkIn
import Derived.OrdersIn
import Derived.Deep.RegionHeld
import Derived.Test.YtjcnnmnnbjaheaaGreatDoorDTabQ
import Derived.Test.YtjcnnmnnbjaheaaGreatDoorHkTQ
import Derived.Test.YtjcnnmnnbjaheaaGreatDoorIterQ
import Derived.Test.YtjcnnmnnbjaheaaGreatDoorIdLQ
import Derived.Test.YtjcnnmnnbjaheaaGreatDoorTeLQ
import Derived.Test.YtjcnnmnnbjaheaaGreatDoorJnCQ
import Derived.Deep.RegionWith
import Derived.Laws.Cover1
import Derived.Deep.CutRange
namespace Go.Proofs.YtjcnnmnnbjaheaaGreatDoor.Te
open Go.ChangeShapes Go.WideShapes Go.ChangeAt Go.RowKit

theorem md_one {s : ByteArray} (h : s = ⟨#[102, 105, 108, 101]⟩) : md s.data.toList = 1 := by subst h; rfl
theorem md_two {s : ByteArray} (h : s = ⟨#[114, 117, 110]⟩) : md s.data.toList = 2 := by subst h; rfl
theorem md_three {s : ByteArray} (h : s = ⟨#[116, 114, 101, 101]⟩) : md s.data.toList = 3 := by subst h; rfl
theorem md_none {s : ByteArray} (h1 : ¬ s = ⟨#[102, 105, 108, 101]⟩) (h2 : ¬ s = ⟨#[114, 117, 110]⟩) (h3 : ¬ s = ⟨#[116, 114, 101, 101]⟩) : md s.data.toList = 0 := by
  have k : ∀ l : List UInt8, s.data.toList = l → s = ⟨l.toArray⟩ := fun l e => by rw [← e]
  unfold md
  rw [if_neg (fun e => h1 (k _ e)), if_neg (fun e => h2 (k _ e)), if_neg (fun e => h3 (k _ e))]
theorem ne_sym {b : ByteArray} {l : List UInt8} (h : ¬ b = ⟨l.toArray⟩) : (l == b.toList) = false := by
  have := beq_bytes_false (a := ⟨l.toArray⟩) (b := b) (fun e => h e.symm)
  rwa [ByteArray.toList_eq] at this
set_option maxHeartbeats 1000000 in
theorem modeOfC (s : ByteArray) (w : World) (hg : MwG w) :
    Calls Tryz.prog 71 #[.string s] w fun e w' => e = .returned (.int .i64 (md s.data.toList)) ∧ w' = w := by
  obtain ⟨c0, c1, c2⟩ := hg
  have q1 := md_one (s := s)
  have q2 := md_two (s := s)
  have q3 := md_three (s := s)
  have q0 := md_none (s := s)
  obtain ⟨M, hM⟩ : ∃ M, md s.data.toList = M := ⟨_, rfl⟩
  rw [hM] at q1 q2 q3 q0 ⊢
  clear hM
  by_cases e1 : s = ⟨#[102, 105, 108, 101]⟩
  · have HM : Hid (M = 1) := q1 e1
    clear q1 q2 q3 q0
    subst e1
    go_enter Tryz.func71, Tryz.ntmps71
    go_wp2
    go_loopw [3, 4] (fun _ i wr => i = .int .i64 0 ∧ wr = w) (fun _ _ _ => 0)
    case atStart => exact ⟨rfl, rfl⟩
    case round =>
      obtain ⟨rfl, rfl⟩ := hrel
      go_wp2
      go_ret
      exact ⟨ret_int HM.out.symm, rfl⟩
  have b1 := ne_sym (l := [102, 105, 108, 101]) e1
  by_cases e2 : s = ⟨#[114, 117, 110]⟩
  · have HM : Hid (M = 2) := q2 e2
    clear q1 q2 q3 q0 e1
    subst e2
    go_enter Tryz.func71, Tryz.ntmps71
    go_wp2
    go_loopw [3, 4] (fun _ i wr => (i = .int .i64 0 ∨ i = .int .i64 1) ∧ wr = w) (fun _ i _ => 2 - (intOf i).toNat)
    case atStart => exact ⟨.inl rfl, rfl⟩
    case round =>
      obtain ⟨rfl | rfl, rfl⟩ := hrel
      · go_wp2
        go_roundw
        case rel => exact ⟨.inr rfl, trivial⟩
        case measure => simp [intOf]
      · go_wp2
        go_ret
        exact ⟨ret_int HM.out.symm, rfl⟩
  have b2 := ne_sym (l := [114, 117, 110]) e2
  by_cases e3 : s = ⟨#[116, 114, 101, 101]⟩
  · have HM : Hid (M = 3) := q3 e3
    clear q1 q2 q3 q0 e1 e2
    subst e3
    go_enter Tryz.func71, Tryz.ntmps71
    go_wp2
    go_loopw [3, 4] (fun _ i wr => (i = .int .i64 0 ∨ i = .int .i64 1 ∨ i = .int .i64 2) ∧ wr = w) (fun _ i _ => 3 - (intOf i).toNat)
    case atStart => exact ⟨.inl rfl, rfl⟩
    case round =>
      obtain ⟨rfl | rfl | rfl, rfl⟩ := hrel
      · go_wp2
        go_roundw
        case rel => exact ⟨.inr (.inl rfl), trivial⟩
        case measure => simp [intOf]
      · go_wp2
        go_roundw
        case rel => exact ⟨.inr (.inr rfl), trivial⟩
        case measure => simp [intOf]
      · go_wp2
        go_ret
        exact ⟨ret_int HM.out.symm, rfl⟩
  have b3 := ne_sym (l := [116, 114, 101, 101]) e3
  have HM : Hid (M = 0) := q0 e1 e2 e3
  clear q1 q2 q3 q0 e1 e2 e3
  go_enter Tryz.func71, Tryz.ntmps71
  go_wp2
  go_loopw [3, 4] (fun _ i wr => (i = .int .i64 0 ∨ i = .int .i64 1 ∨ i = .int .i64 2 ∨ i = .int .i64 3) ∧ wr = w) (fun _ i _ => 3 - (intOf i).toNat)
  case atStart => exact ⟨.inl rfl, rfl⟩
  case round =>
    obtain ⟨rfl | rfl | rfl | rfl, rfl⟩ := hrel
    · go_wp2
      go_roundw
      case rel => exact ⟨.inr (.inl rfl), trivial⟩
      case measure => simp [intOf]
    · go_wp2
      go_roundw
      case rel => exact ⟨.inr (.inr (.inl rfl)), trivial⟩
      case measure => simp [intOf]
    · go_wp2
      go_roundw
      case rel => exact ⟨.inr (.inr (.inr rfl)), trivial⟩
      case measure => simp [intOf]
    · go_wp2
      go_ret
      exact ⟨ret_int HM.out.symm, rfl⟩
end Go.Proofs.YtjcnnmnnbjaheaaGreatDoor.Te
/- Contracts of the laws' marks (markText, markStringS, heldStringS) over this seat's program. No statement is proved here. -/
namespace Go.Proofs.YtjcnnmnnbjaheaaGreatDoor
open Go.ChangeShapes Go.WideShapes Go.ChangeAt Go.RowKit

theorem ret_string {a b : ByteArray} (h : a = b) : Ending.returned (.string a) = .returned (.string b) := by rw [h]
/-- The digits of n ahead of t, in at most f steps. -/
def dgsF : Nat → Nat → ByteArray → ByteArray
  | 0, _, t => t
  | f + 1, n, t => if n = 0 then t else dgsF f (n / 10) (⟨#[(48 + n % 10).toUInt8]⟩ ++ t)
theorem dgsF_zero (f : Nat) (t : ByteArray) : dgsF f 0 t = t := by
  cases f with
  | zero => rfl
  | succ f => rw [dgsF, if_pos rfl]
theorem dgsF_more : ∀ (f g n : Nat) (t : ByteArray), n ≤ f → n ≤ g → dgsF f n t = dgsF g n t := by
  intro f
  induction f with
  | zero =>
    intro g n t hf _
    have : n = 0 := by omega
    subst this
    rw [dgsF_zero, dgsF_zero]
  | succ f ih =>
    intro g n t hf hg
    by_cases h0 : n = 0
    · subst h0; rw [dgsF_zero, dgsF_zero]
    · cases g with
      | zero => omega
      | succ g =>
        rw [dgsF, dgsF, if_neg h0, if_neg h0]
        exact ih g (n / 10) _ (by omega) (by omega)
/-- The digits of n ahead of t. -/
def dgs (n : Nat) (t : ByteArray) : ByteArray := dgsF n n t
theorem dgs_zero (t : ByteArray) : dgs 0 t = t := rfl
theorem dgs_pos (n : Nat) (t : ByteArray) (h : ¬ n = 0) : dgs n t = dgs (n / 10) (⟨#[(48 + n % 10).toUInt8]⟩ ++ t) := by
  unfold dgs
  obtain ⟨m, rfl⟩ : ∃ m, n = m + 1 := ⟨n - 1, by omega⟩
  rw [dgsF, if_neg h]
  exact dgsF_more _ _ _ _ (by omega) (Nat.le_refl _)
/-- The mark of number n. -/
def mtxt (n : Nat) : ByteArray := ⟨#[109]⟩ ++ dgs n ⟨#[]⟩

theorem conv_one (wx : World) (c : Int) (m : Nat) (hcm : c = (m : Int)) (hm : m < 256) :
    (convert 22 9 (.slice (some ⟨wx.heap.size, 0, none⟩) 1 1)).run Tryz.prog (wx.alloc (.cells #[.int .u8 c] 5)) = .ok (.string ⟨#[m.toUInt8]⟩) (wx.alloc (.cells #[.int .u8 c] 5)) := by
  subst hcm
  have e : (m.toUInt8.toNat : Int) = (m : Int) := by
    have : m.toUInt8.toNat = m % 256 := by simp
    omega
  refine run_convert_bytes_back _ 22 9 5 ⟨wx.heap.size, 0, none⟩ 1 [m.toUInt8] Tryz.underlying22 Tryz.underlying5 Tryz.underlying9 ?_
  intro j hj
  have : j = 0 := by simp at hj; omega
  subst this
  show _ = some (Value.int .u8 (m.toUInt8.toNat : Int))
  rw [e]
  simp [Addr.add]

set_option maxHeartbeats 1000000 in
theorem markText (n : Nat) (h1 : 1 ≤ n) (h2 : n ≤ 8388608) (w : World) :
    Calls Tryz.prog 66 #[.int .i64 n] w fun e w' => e = .returned (.string (mtxt n)) ∧ Below w.heap.size w w' := by
  go_enter Tryz.func66, Tryz.ntmps66
  go_wp2
  go_loopw [0, 3] (fun i t wr => ∃ (k : Nat) (s : ByteArray), i = .int .i64 k ∧ t = .string s ∧ s.size + k ≤ n ∧ Hid (dgs n ⟨#[]⟩ = dgs k s) ∧ Below w.heap.size w wr) (fun i _ _ => (intOf i).toNat)
  case atStart => exact ⟨n, ⟨#[]⟩, rfl, rfl, by simp [ByteArray.size], rfl, Below.refl _ _⟩
  case round =>
    obtain ⟨k, s, rfl, rfl, hsz, hd, hb⟩ := hrel
    by_cases h0 : k = 0
    · have h0' : ¬ (0 : Int) < (k : Int) := by omega
      have hd2 : Hid (dgs n ⟨#[]⟩ = s) := by show _ = s; rw [hd.out, h0, dgs_zero]
      clear h0 hd
      go_wp2
      go_ret
      exact ⟨ret_string (by unfold mtxt; rw [hd2.out]), hb⟩
    · have h0' : (0 : Int) < (k : Int) := by omega
      have hd2 : Hid (dgs n ⟨#[]⟩ = dgs (k / 10) (⟨#[(48 + k % 10).toUInt8]⟩ ++ s)) := by show _ = _; rw [hd.out, dgs_pos k s h0]
      have hcv := fun wx => conv_one wx (48 + (k : Int) % 10) (48 + k % 10) (by omega) (by omega)
      have hsz2 : (⟨#[(48 + k % 10).toUInt8]⟩ ++ s : ByteArray).size = 1 + s.size := by rw [ByteArray.size_append]; rfl
      obtain ⟨d, hde⟩ : ∃ d, (⟨#[(48 + k % 10).toUInt8]⟩ : ByteArray) = d := ⟨_, rfl⟩
      have hd1 : d.size = 1 := by rw [← hde]; rfl
      rw [hde] at hcv hd2 hsz2
      have HSZ : Hid ((d ++ s).size = 1 + s.size) := hsz2
      clear hd hde hsz2
      go_wp2
      go_roundw
      case rel =>
        refine ⟨k / 10, d ++ s, ?_, rfl, ?_, hd2, hb.alloc hb.size _⟩
        · go_num
        · rw [HSZ.out]; omega
      case measure => simp [intOf]; omega

theorem grown_of_below {w w' : World} (h : Below w.heap.size w w') (row : Option Nat) : w.grownBy w' row := ⟨h.os, h.tape, h.output, h.size, fun k hk _ => h.block k hk⟩
theorem grown_trans {a b c : World} {row : Option Nat} (h : a.grownBy b row) (k : b.grownBy c row) : a.grownBy c row :=
  ⟨k.os.trans h.os, k.tape.trans h.tape, k.output.trans h.output, Nat.le_trans h.size k.size, fun i hi hne => (k.block i (Nat.lt_of_lt_of_le hi h.size) hne).trans (h.block i hi hne)⟩
theorem mtxt_size (n : Nat) (h : n ≤ 8388608) : (mtxt n).size ≤ 9223372036854775807 := by
  have key : ∀ m k (s : ByteArray), k ≤ m → (dgs k s).size ≤ s.size + k := by
    intro m
    induction m with
    | zero => intro k s hk; have : k = 0 := by omega
              subst this; rw [dgs_zero]; omega
    | succ m ih =>
      intro k s hk
      by_cases h0 : k = 0
      · subst h0; rw [dgs_zero]; omega
      · rw [dgs_pos k s h0]
        have := ih (k / 10) (⟨#[(48 + k % 10).toUInt8]⟩ ++ s) (by omega)
        have e : (⟨#[(48 + k % 10).toUInt8]⟩ ++ s : ByteArray).size = 1 + s.size := by rw [ByteArray.size_append]; rfl
        omega
  have := key n n ⟨#[]⟩ (Nat.le_refl _)
  have e : (⟨#[]⟩ : ByteArray).size = 0 := rfl
  have e2 : (⟨#[109]⟩ : ByteArray).size = 1 := rfl
  unfold mtxt
  rw [ByteArray.size_append]
  omega

/-- The marks from m on, n of them. -/
def marks (m n : Nat) : List ByteArray := (List.range n).map fun i => mtxt (m + i)
theorem marks_length (m n : Nat) : (marks m n).length = n := by simp [marks]
theorem marks_at (m n k : Nat) (h : k < n) : (marks m n).getD k ByteArray.empty = mtxt (m + k) := by
  rw [getD_at _ k (by rw [marks_length]; exact h)]; simp [marks]
theorem marks_snoc (m n : Nat) : marks m (n + 1) = marks m n ++ [mtxt (m + n)] := by simp [marks, List.range_succ]
theorem marks_small (m n : Nat) (h : m + n ≤ 4194304) : ∀ k, k < (marks m n).length → ((marks m n).getD k ByteArray.empty).size ≤ 9223372036854775807 := by
  intro k hk
  rw [marks_length] at hk
  rw [marks_at m n k hk]
  exact mtxt_size _ (by omega)
def mixed (xs : List Value) (m k : Nat) : List Value := (marks m k).map Value.string ++ xs.drop k
theorem mixed_set (xs : List Value) (m k : Nat) (h : k < xs.length) : (mixed xs m k).set k (.string (mtxt (m + k))) = mixed xs m (k + 1) := by
  unfold mixed
  rw [marks_snoc, List.map_append, List.append_assoc, List.set_append_right _ _ (by simp [marks_length])]
  congr 1
  simp only [List.length_map, marks_length, Nat.sub_self]
  rw [List.drop_eq_getElem_cons h]
  rfl

end Go.Proofs.YtjcnnmnnbjaheaaGreatDoor
/- A region that draws its order, inside a round of a range over a function: walked as outside of it, its loads first. No statement is proved here. -/
namespace Go.Proofs.YtjcnnmnnbjaheaaGreatDoor
open Go.RowKit

def noOut (Q : Exit → Act → World → Prop) (e : Exit) (a : Act) (w : World) : Prop := e ≠ .outgrown ∧ Q e a w
theorem not_out (Q : Exit → Act → World → Prop) : ¬ LetsOut (noOut Q) := fun ⟨_, _, h⟩ => h.1 rfl
theorem op_round {P : Program} {o : Oper} {l n : Nat} {a : Act} {w : World} {K K' : Act → World → Prop} {Q : Exit → Act → World → Prop} (hd : ∀ c, o.op ≠ .defer c) (hK : ∀ a w, K a w → K' a w)
    (h : o.wp P a w K (noOut Q)) : o.wpIn (Fence.wide.inRound l) n P a w K' Q := by
  refine ⟨fun _ _ => trivial, ?_⟩
  rw [Oper.semAt_plain _ _ _ hd]
  unfold Oper.wp at h
  generalize (execOp a.eval o).run P w = r at h ⊢
  have he : ∀ (f : FuncId) (args : Array Value) (w' : World), Calls P f args w' (fun
      | .returned v, w'' => K (a.put o.dst v) w''
      | .panicked chain, w'' => noOut Q (.panic chain) a w''
      | .outgrown, _ => LetsOut (noOut Q)) → CallsIn (Fence.wide.inRound l) (n - 1) P f args w' fun
      | .returned v, w'' => K' (a.put o.dst v) w''
      | .panicked chain, w'' => Q (.panic chain) a w''
      | .outgrown, _ => LetsOut Q := fun f args w' hc => CallsIn.inRound l (callsIn_wide.2 (hc.mono fun e w'' q => by
    cases e with
    | returned v => exact hK _ _ q
    | panicked c => exact q.2
    | outgrown => exact absurd q (not_out Q)))
  cases r with
  | ok x w' =>
    cases x with
    | value v => exact hK _ _ h
    | skip => exact hK _ _ h
    | defer d => exact hK _ _ h
    | enter f args => exact ⟨fun e => (by cases e), he f args w' h⟩
    | row row args => exact ⟨fun e => (by cases e), fun c cs _ => let ⟨v, w', r, s⟩ := h c cs; ⟨v, w', hK _ _ r, stepsIn_wide.2 s⟩⟩
    | round => exact h.elim
    | _ => exact h.elim
  | halt x w' =>
    cases x with
    | panic v => exact h.2
    | _ => exact h.elim
theorem any_round {P : Program} {md : Region.Mode} {ops : Array Oper} {l n : Nat} {Q : Exit → Act → World → Prop} (hd : ∀ (i : Nat) (o : Oper), ops[i]? = some o → ∀ c, o.op ≠ .defer c) :
    ∀ (fuel : Nat) (listed : Array Bool) (a : Act) (w : World), wpAny P md ops (noOut Q) fuel listed a w → wpAnyIn (Fence.wide.inRound l) n P md ops Q fuel listed a w
  | 0, _, _, _, h => ⟨h.1, h.2.2⟩
  | fuel + 1, listed, a, w, h => ⟨fun e => (h.1 e).2, fun i hi => by
    have h2 := h.2 i hi
    unfold wpOp at h2
    unfold wpOpIn
    cases e : ops[i]? with
    | none => rw [e] at h2; exact any_round hd fuel _ a w h2
    | some o =>
      rw [e] at h2
      simp only at h2 ⊢
      split
      · rename_i hw
        rw [if_pos hw] at h2
        rcases h2 with h2 | h2
        · exact op_round (hd i o e) (fun a' w' q => any_round hd fuel _ a' w' q) h2
        · exact absurd h2.2 (not_out Q)
      · rename_i hw
        rw [if_neg hw] at h2
        exact ⟨fun _ _ => trivial, any_round hd fuel _ _ w h2⟩⟩
/-- No operation of a region is a defer statement. -/
def noDefer (ops : Array Oper) : Bool := ops.all fun o => match o.op with
  | .defer _ => false
  | _ => true
theorem noDefer_spec {ops : Array Oper} (h : noDefer ops = true) (i : Nat) (o : Oper) (hi : ops[i]? = some o) (c : Call) : o.op ≠ .defer c := fun e => by
  have h1 := Array.all_eq_true'.1 h o (Array.mem_of_getElem? hi)
  rw [e] at h1
  cases h1
theorem region_round {P : Program} {ops : Array Oper} {l n id : Nat} {Q : Exit → Act → World → Prop} {S : World → Prop} {a : Act} {w : World} (hm : P.follows .mixedOrders = true) (hd : noDefer ops = true) (hS : S w.drew)
    (h : S w.drew → wpAnyH P .any ops (noOut Q) S ops.size (Array.replicate ops.size false) a w.drew) : (Code.region id ops true).wpIn (Fence.wide.inRound l) n P Q a w :=
  wpIn_region_any hm (any_round (noDefer_spec hd) _ _ _ _ (wpAny_of_held _ _ _ _ (h hS)))
end Go.Proofs.YtjcnnmnnbjaheaaGreatDoor
/- The contract of the program's writeTree, walked. No statement is proved here. -/
namespace Go.Proofs.YtjcnnmnnbjaheaaGreatDoor.Te
open Go.ChangeShapes Go.WideShapes Go.ChangeAt Go.RowKit

theorem obB {B : Nat} {w w' : World} {a : Option Addr} {l : List Ob} (h : OB B w a l) (hb : Below B w w') : OB B w' a l := fun k hk => by
  obtain ⟨g, off, e, hg, d0, d1, d2⟩ := h k hk
  exact ⟨g, off, e, hg, (hb.cell (p := ⟨g, off + k * 3, none⟩) hg).trans d0, (hb.cell (p := ⟨g, off + k * 3 + 1, none⟩) hg).trans d1, (hb.cell (p := ⟨g, off + k * 3 + 2, none⟩) hg).trans d2⟩
theorem keepC {w w1 : World} {g o : Nat} {v : Value} (b : Below w.heap.size w w1) (h : w.cell? ⟨g, o, none⟩ = some v) : w1.cell? ⟨g, o, none⟩ = some v := (b.cell (p := ⟨g, o, none⟩) (cellLt h)).trans h
end Go.Proofs.YtjcnnmnnbjaheaaGreatDoor.Te
