/- A region that draws its order, inside a round of a range over a function: walked as outside of it, its loads first. No statement is proved here. -/
import Derived.RangeFuncNested
import Derived.RangeFuncCalls
import Derived.WalkKit
import Derived.OwnWalkIn
import Derived.OrdersIn
import Derived.Deep.RegionHeld
import Derived.Test.YtijphomojljckaaGreatDoorRows
import Derived.Test.YtijphomojljckaaGreatDoorLemQ
import Derived.Test.YtijphomojljckaaGreatDoorLFLemQ
import Derived.Test.YtijphomojljckaaGreatDoorCutLQ
import Derived.Test.YtijphomojljckaaGreatDoorIxBQ
import Derived.Test.YtijphomojljckaaGreatDoorIterQ
import Derived.Test.YtijphomojljckaaGreatDoorComQ
import Derived.ProofKit
import Derived.Below
import Derived.Maps.AppendAt
namespace Go.Proofs.YtijphomojljckaaGreatDoor
open Go.RowKit

def noOut (Q : Exit → Act → World → Prop) (e : Exit) (a : Act) (w : World) : Prop := e ≠ .outgrown ∧ Q e a w
theorem not_out (Q : Exit → Act → World → Prop) : ¬ LetsOut (noOut Q) := fun ⟨_, _, h⟩ => h.1 rfl
theorem op_round {P : Program} {o : Oper} {l n : Nat} {a : Act} {w : World} {K K' : Act → World → Prop} {Q : Exit → Act → World → Prop} (hd : ∀ c, o.op ≠ .defer c) (hK : ∀ a w, K a w → K' a w)
    (h : o.wp P a w K (noOut Q)) : o.wpIn (Fence.wide.inRound l) n P a w K' Q := by
  refine ⟨fun _ _ => trivial, ?_⟩
  rw [Oper.semAt_plain _ _ _ hd]
  unfold Oper.wp at h
  generalize (execOp a.eval o).run P w = r at h ⊢
  have he : ∀ (f : FuncId) (args : Array Value) (w' : World), Calls P f args w' (fun
      | .returned v, w'' => K (a.put o.dst v) w''
      | .panicked chain, w'' => noOut Q (.panic chain) a w''
      | .outgrown, _ => LetsOut (noOut Q)) → CallsIn (Fence.wide.inRound l) (n - 1) P f args w' fun
      | .returned v, w'' => K' (a.put o.dst v) w''
      | .panicked chain, w'' => Q (.panic chain) a w''
      | .outgrown, _ => LetsOut Q := fun f args w' hc => CallsIn.inRound l (callsIn_wide.2 (hc.mono fun e w'' q => by
    cases e with
    | returned v => exact hK _ _ q
    | panicked c => exact q.2
    | outgrown => exact absurd q (not_out Q)))
  cases r with
  | ok x w' =>
    cases x with
    | value v => exact hK _ _ h
    | skip => exact hK _ _ h
    | defer d => exact hK _ _ h
    | enter f args => exact ⟨fun e => (by cases e), he f args w' h⟩
    | row row args => exact ⟨fun e => (by cases e), fun c cs _ => let ⟨v, w', r, s⟩ := h c cs; ⟨v, w', hK _ _ r, stepsIn_wide.2 s⟩⟩
    | round => exact h.elim
    | _ => exact h.elim
  | halt x w' =>
    cases x with
    | panic v => exact h.2
    | _ => exact h.elim
theorem any_round {P : Program} {md : Region.Mode} {ops : Array Oper} {l n : Nat} {Q : Exit → Act → World → Prop} (hd : ∀ (i : Nat) (o : Oper), ops[i]? = some o → ∀ c, o.op ≠ .defer c) :
    ∀ (fuel : Nat) (listed : Array Bool) (a : Act) (w : World), wpAny P md ops (noOut Q) fuel listed a w → wpAnyIn (Fence.wide.inRound l) n P md ops Q fuel listed a w
  | 0, _, _, _, h => ⟨h.1, h.2.2⟩
  | fuel + 1, listed, a, w, h => ⟨fun e => (h.1 e).2, fun i hi => by
    have h2 := h.2 i hi
    unfold wpOp at h2
    unfold wpOpIn
    cases e : ops[i]? with
    | none => rw [e] at h2; exact any_round hd fuel _ a w h2
    | some o =>
      rw [e] at h2
      simp only at h2 ⊢
      split
      · rename_i hw
        rw [if_pos hw] at h2
        rcases h2 with h2 | h2
        · exact op_round (hd i o e) (fun a' w' q => any_round hd fuel _ a' w' q) h2
        · exact absurd h2.2 (not_out Q)
      · rename_i hw
        rw [if_neg hw] at h2
        exact ⟨fun _ _ => trivial, any_round hd fuel _ _ w h2⟩⟩
/-- No operation of a region is a defer statement. -/
def noDefer (ops : Array Oper) : Bool := ops.all fun o => match o.op with
  | .defer _ => false
  | _ => true
theorem noDefer_spec {ops : Array Oper} (h : noDefer ops = true) (i : Nat) (o : Oper) (hi : ops[i]? = some o) (c : Call) : o.op ≠ .defer c := fun e => by
  have h1 := Array.all_eq_true'.1 h o (Array.mem_of_getElem? hi)
  rw [e] at h1
  cases h1
theorem region_round {P : Program} {ops : Array Oper} {l n id : Nat} {Q : Exit → Act → World → Prop} {S : World → Prop} {a : Act} {w : World} (hm : P.follows .mixedOrders = true) (hd : noDefer ops = true) (hS : S w.drew)
    (h : S w.drew → wpAnyH P .any ops (noOut Q) S ops.size (Array.replicate ops.size false) a w.drew) : (Code.region id ops true).wpIn (Fence.wide.inRound l) n P Q a w :=
  wpIn_region_any hm (any_round (noDefer_spec hd) _ _ _ _ (wpAny_of_held _ _ _ _ (h hS)))
end Go.Proofs.YtijphomojljckaaGreatDoor
/- Small laws for regions that draw their order, rows and pieces of lines. No statement is proved here. -/
namespace Go.Proofs.YtijphomojljckaaGreatDoor.Dc
open Go.RowKit Go.Shelf
open Go.Proofs.YtijphomojljckaaGreatDoor.Te

theorem keep3 {w w1 : World} {g o : Nat} {v : Value} (b : Below w.heap.size w w1) (hg : g < w.heap.size) (h : w.cell? ⟨g, o, none⟩ = some v) : w1.cell? ⟨g, o, none⟩ = some v := (b.cell (p := ⟨g, o, none⟩) hg).trans h
theorem takeD {P : Program} {md : Region.Mode} {ops : Array Oper} {Q : Exit → Act → World → Prop} {S : World → Prop} {i d : Nat} {oi : Oper} {v : Value} {fuel : Nat} {listed listed' : Array Bool} {a : Act} {w : World} (hi : ops[i]? = some oi)
    (hs : Region.noSelect ops = true) (hf : Region.free md ops listed i = true) (hr : (Region.ready md ops listed).contains i = true)
    (hQ : ∀ c a w, Q (.panic c) (a.put oi.dst v) w → Q (.panic c) a w) (hy : YieldsIf P ops S oi v a) (hS : S w) (hd : oi.dst = some d) (hl : listed.setIfInBounds i true = listed')
    (h : wpAnyH P md ops Q S fuel listed' (a.put (some d) v) w) : wpAnyH P md ops Q S (fuel + 1) listed a w := by
  subst hl
  exact wpAnyH_take hi hs hf hr hQ hy hS (by rw [hd]; exact h)
theorem moreS {P : Program} {md : Region.Mode} {ops : Array Oper} {Q : Exit → Act → World → Prop} {S S' : World → Prop} (hSS : ∀ w, S' w → S w) : ∀ (fuel : Nat) (listed : Array Bool) (a : Act) (w : World), wpAnyH P md ops Q S' fuel listed a w → wpAnyH P md ops Q S fuel listed a w
  | 0, _, _, _, h => h
  | fuel + 1, _, _, _, h => ⟨h.1, fun i hi => wpOp_mono (fun a' w' h' => ⟨hSS _ h'.1, moreS hSS fuel _ a' w' h'.2⟩) (h.2 i hi)⟩
theorem rowDown {w : World} {B B' : Nat} {e : TypeId} {size n : Nat} {v : Value} {xs : List Value} (h : w.ownsRow B e size v n xs) (hB : B' ≤ B) : w.ownsRow B' e size v n xs :=
  ⟨h.1, h.2.imp id fun ⟨g, cap, cur, h1, h2, h3⟩ => ⟨g, cap, cur, h1, Nat.le_trans hB h2, h3⟩⟩
/-- append onto a row of the call's own, as one step of a region that draws. -/
theorem stepH_append_own {P : Program} {ops : Array Oper} {o : Oper} {a : Act} {w : World} {K : Act → World → Prop} {Q : Exit → Act → World → Prop} {E : Prop}
    (hg : o.guard = none) (s x : Operand) (t : TypeId) (hop : o.op = Op.call { callee := Callee.builtin Builtin.append, args := #[s, x], argTypes := #[t, t] })
    (base : Nat) (e : TypeId) (i : TypeInfo) (z : Value) (size bytes : Nat) (h1 : P.underlying t = some (.slice e)) (h2 : P.info? e = some i) (h3 : i.zero = some z) (h4 : i.size = size) (h5 : i.bytes = bytes) (h6 : z.cells.size = size) (h7 : 0 < size)
    (v : Value) (k : Nat) (xs : List Value) (hs : a.eval s = v) (hown : w.ownsRow base e size v k xs) (ad : Addr) (m c : Nat) (news : List Value) (hx : a.eval x = .slice (some ad) m c) (hn : news.length = m * size)
    (hc : ∀ j u, news[j]? = some u → w.cell? (ad.add j) = some u) (h1c : ∀ u ∈ news, u.oneCell' = true) (b1 : k + m ≤ maxLen) (b2 : (k + m) * bytes ≤ 140737488355328) (b3 : base ≤ w.heap.size)
    (hK : ∀ v' w', w'.ownsRow base e size v' (k + m) (xs ++ news) → w.grownBy w' v.ownBlock → K (a.put o.dst v') w') :
    if Region.wanted o (yielded ops a.tmps) = true then Oper.wp P o a w K Q else E := by
  have hw : Region.wanted o (yielded ops a.tmps) = true := by simp [Region.wanted, hg]
  rw [if_pos hw]
  obtain ⟨v', w', hrun, r1, r2, _⟩ := run_append_own (P := P) w base t o.type e i z size bytes h1 h2 h3 h4 h5 h6 h7 v k xs hown ad m c news hn hc h1c b1 b2 b3
  unfold Oper.wp
  simp [execOp, hop, resolve, invoke, builtin, hs, hx, hrun, Result.andThen]
  exact hK v' w' r1 r2
theorem aft_len (l : List UInt8) : (aft l).length ≤ l.length := by
  unfold aft
  rw [List.length_drop]
  have := (List.dropWhile_sublist (fun c : UInt8 => c != 32) (l := l)).length_le
  omega
theorem bef_len (l : List UInt8) : (bef l).length ≤ l.length := (List.takeWhile_sublist _).length_le
theorem trim_len (l : List UInt8) : (trimL l).length ≤ l.length := by
  unfold trimL
  split
  · simp
  · exact Nat.le_refl _
theorem mkB_size (l : List UInt8) : (mkB l).size = l.length := by rw [← size_eq, mkB_data]
def onlyN (Q : Exit → Act → World → Prop) (e : Exit) (a : Act) (w : World) : Prop := e = .normal ∧ Q e a w
theorem region_wide {P : Program} {ops : Array Oper} {n id : Nat} {Q : Exit → Act → World → Prop} {S : World → Prop} {a : Act} {w : World} (hm : P.follows .mixedOrders = true) (hS : S w.drew)
    (h : S w.drew → wpAnyH P .any ops (onlyN Q) S ops.size (Array.replicate ops.size false) a w.drew) : (Code.region id ops true).wpIn Fence.wide n P Q a w :=
  wpIn_wide.2 (wp_mono (wp_region_held_drew hm hS h) (fun _ _ _ q => q.2))
theorem SS.keptBy {w w' : World} {a : Option Addr} {ss : List ByteArray} {row : Option Nat} (h : SS w a ss) (hg : w.grownBy w' row) (hne : ∀ g off, a = some ⟨g, off, none⟩ → row ≠ some g) : SS w' a ss :=
  ⟨h.1, fun k hk => by
    obtain ⟨b, off, e, hb, hc⟩ := h.2 k hk
    refine ⟨b, off, e, Nat.lt_of_lt_of_le hb hg.size, ?_⟩
    have := hg.block b hb (fun q => hne b off e q.symm)
    unfold World.cell? at hc ⊢
    rw [this]; exact hc⟩
theorem SS.setOther {w : World} {a : Option Addr} {ss : List ByteArray} {b o : Nat} {v : Value} (h : SS w a ss) (hne : ∀ g off, a = some ⟨g, off, none⟩ → ¬ g = b) : SS (w.setCell ⟨b, o, none⟩ v) a ss :=
  SS.keptBy h ⟨rfl, rfl, rfl, (KeepsWalks.setCell w _ v).size, fun k _ hk => Below.heap_setCell _ _ _ k (fun e => hk (by rw [e]))⟩ (row := some b) (fun g off e q => hne g off e (Option.some.inj q).symm)
theorem line_size (s : ByteArray) (k : Nat) (hk : k < (linesOf s).length) : ((linesOf s).getD k ByteArray.empty).size ≤ s.size := by
  have hk' : k < (spl s.data.toList).length := by simpa [linesOf, linesFrom] using hk
  have e : (linesOf s).getD k ByteArray.empty = mkB ((spl s.data.toList)[k]) := by simp [linesOf, linesFrom, List.getD, hk']
  rw [e, mkB_size, ← size_eq]
  have h := (List.sublist_flatten_of_mem (List.getElem_mem hk')).length_le
  rw [spl_join] at h
  exact h
theorem unT_size (x : ByteArray) : (unT x).size ≤ x.size := by
  unfold unT
  split
  · rw [mkB_size, ← size_eq]; exact trim_len _
  · exact Nat.zero_le _
end Go.Proofs.YtijphomojljckaaGreatDoor.Dc
