/- Small laws for regions that draw their order, rows and pieces of lines. No statement is proved here. -/
import Derived.Test.YtgidcncmicmggamGreatDoorRows
import Derived.Test.YtgidcncmicmggamGreatDoorLem
import Derived.Test.YtgidcncmicmggamGreatDoorStrs
import Derived.Test.YtgidcncmicmggamGreatDoorLFLem
import Derived.Test.YtgidcncmicmggamGreatDoorSplLem
import Derived.Test.YtgidcncmicmggamGreatDoorFdL
import Derived.Test.YtgidcncmicmggamGreatDoorCutC
import Derived.Test.YtgidcncmicmggamGreatDoorDtU
import Derived.Test.YtgidcncmicmggamGreatDoorSpl
import Derived.Test.YtgidcncmicmggamGreatDoorDTab
import Derived.Test.YtgidcncmicmggamGreatDoorRegR
import Derived.WalkKit
import Derived.ProofKit
import Derived.Below
import Derived.Maps.AppendAt
import Derived.OwnWalkIn
import Derived.Deep.RegionHeld
namespace Go.Proofs.YtgidcncmicmggamGreatDoor.Dc
open Go.RowKit Go.Shelf
open Go.Proofs.YtgidcncmicmggamGreatDoor.Te

theorem keep3 {w w1 : World} {g o : Nat} {v : Value} (b : Below w.heap.size w w1) (hg : g < w.heap.size) (h : w.cell? ⟨g, o, none⟩ = some v) : w1.cell? ⟨g, o, none⟩ = some v := (b.cell (p := ⟨g, o, none⟩) hg).trans h
theorem takeD {P : Program} {md : Region.Mode} {ops : Array Oper} {Q : Exit → Act → World → Prop} {S : World → Prop} {i d : Nat} {oi : Oper} {v : Value} {fuel : Nat} {listed listed' : Array Bool} {a : Act} {w : World} (hi : ops[i]? = some oi)
    (hs : Region.noSelect ops = true) (hf : Region.free md ops listed i = true) (hr : (Region.ready md ops listed).contains i = true)
    (hQ : ∀ c a w, Q (.panic c) (a.put oi.dst v) w → Q (.panic c) a w) (hy : YieldsIf P ops S oi v a) (hS : S w) (hd : oi.dst = some d) (hl : listed.setIfInBounds i true = listed')
    (h : wpAnyH P md ops Q S fuel listed' (a.put (some d) v) w) : wpAnyH P md ops Q S (fuel + 1) listed a w := by
  subst hl
  exact wpAnyH_take hi hs hf hr hQ hy hS (by rw [hd]; exact h)
theorem moreS {P : Program} {md : Region.Mode} {ops : Array Oper} {Q : Exit → Act → World → Prop} {S S' : World → Prop} (hSS : ∀ w, S' w → S w) : ∀ (fuel : Nat) (listed : Array Bool) (a : Act) (w : World), wpAnyH P md ops Q S' fuel listed a w → wpAnyH P md ops Q S fuel listed a w
  | 0, _, _, _, h => h
  | fuel + 1, _, _, _, h => ⟨h.1, fun i hi => wpOp_mono (fun a' w' h' => ⟨hSS _ h'.1, moreS hSS fuel _ a' w' h'.2⟩) (h.2 i hi)⟩
theorem rowDown {w : World} {B B' : Nat} {e : TypeId} {size n : Nat} {v : Value} {xs : List Value} (h : w.ownsRow B e size v n xs) (hB : B' ≤ B) : w.ownsRow B' e size v n xs :=
  ⟨h.1, h.2.imp id fun ⟨g, cap, cur, h1, h2, h3⟩ => ⟨g, cap, cur, h1, Nat.le_trans hB h2, h3⟩⟩
/-- append onto a row of the call's own, as one step of a region that draws. -/
theorem stepH_append_own {P : Program} {ops : Array Oper} {o : Oper} {a : Act} {w : World} {K : Act → World → Prop} {Q : Exit → Act → World → Prop} {E : Prop}
    (hg : o.guard = none) (s x : Operand) (t : TypeId) (hop : o.op = Op.call { callee := Callee.builtin Builtin.append, args := #[s, x], argTypes := #[t, t] })
    (base : Nat) (e : TypeId) (i : TypeInfo) (z : Value) (size bytes : Nat) (h1 : P.underlying t = some (.slice e)) (h2 : P.info? e = some i) (h3 : i.zero = some z) (h4 : i.size = size) (h5 : i.bytes = bytes) (h6 : z.cells.size = size) (h7 : 0 < size)
    (v : Value) (k : Nat) (xs : List Value) (hs : a.eval s = v) (hown : w.ownsRow base e size v k xs) (ad : Addr) (m c : Nat) (news : List Value) (hx : a.eval x = .slice (some ad) m c) (hn : news.length = m * size)
    (hc : ∀ j u, news[j]? = some u → w.cell? (ad.add j) = some u) (h1c : ∀ u ∈ news, u.oneCell' = true) (b1 : k + m ≤ maxLen) (b2 : (k + m) * bytes ≤ 140737488355328) (b3 : base ≤ w.heap.size)
    (hK : ∀ v' w', w'.ownsRow base e size v' (k + m) (xs ++ news) → w.grownBy w' v.ownBlock → K (a.put o.dst v') w') :
    if Region.wanted o (yielded ops a.tmps) = true then Oper.wp P o a w K Q else E := by
  have hw : Region.wanted o (yielded ops a.tmps) = true := by simp [Region.wanted, hg]
  rw [if_pos hw]
  obtain ⟨v', w', hrun, r1, r2, _⟩ := run_append_own (P := P) w base t o.type e i z size bytes h1 h2 h3 h4 h5 h6 h7 v k xs hown ad m c news hn hc h1c b1 b2 b3
  unfold Oper.wp
  simp [execOp, hop, resolve, invoke, builtin, hs, hx, hrun, Result.andThen]
  exact hK v' w' r1 r2
theorem aft_len (l : List UInt8) : (aft l).length ≤ l.length := by
  unfold aft
  rw [List.length_drop]
  have := (List.dropWhile_sublist (fun c : UInt8 => c != 32) (l := l)).length_le
  omega
theorem bef_len (l : List UInt8) : (bef l).length ≤ l.length := (List.takeWhile_sublist _).length_le
theorem trim_len (l : List UInt8) : (trimL l).length ≤ l.length := by
  unfold trimL
  split
  · simp
  · exact Nat.le_refl _
theorem mkB_size (l : List UInt8) : (mkB l).size = l.length := by rw [← size_eq, mkB_data]
def onlyN (Q : Exit → Act → World → Prop) (e : Exit) (a : Act) (w : World) : Prop := e = .normal ∧ Q e a w
theorem region_wide {P : Program} {ops : Array Oper} {n id : Nat} {Q : Exit → Act → World → Prop} {S : World → Prop} {a : Act} {w : World} (hm : P.follows .mixedOrders = true) (hS : S w.drew)
    (h : S w.drew → wpAnyH P .any ops (onlyN Q) S ops.size (Array.replicate ops.size false) a w.drew) : (Code.region id ops true).wpIn Fence.wide n P Q a w :=
  wpIn_wide.2 (wp_mono (wp_region_held_drew hm hS h) (fun _ _ _ q => q.2))
theorem SS.keptBy {w w' : World} {a : Option Addr} {ss : List ByteArray} {row : Option Nat} (h : SS w a ss) (hg : w.grownBy w' row) (hne : ∀ g off, a = some ⟨g, off, none⟩ → row ≠ some g) : SS w' a ss :=
  ⟨h.1, fun k hk => by
    obtain ⟨b, off, e, hb, hc⟩ := h.2 k hk
    refine ⟨b, off, e, Nat.lt_of_lt_of_le hb hg.size, ?_⟩
    have := hg.block b hb (fun q => hne b off e q.symm)
    unfold World.cell? at hc ⊢
    rw [this]; exact hc⟩
theorem SS.setOther {w : World} {a : Option Addr} {ss : List ByteArray} {b o : Nat} {v : Value} (h : SS w a ss) (hne : ∀ g off, a = some ⟨g, off, none⟩ → ¬ g = b) : SS (w.setCell ⟨b, o, none⟩ v) a ss :=
  SS.keptBy h ⟨rfl, rfl, rfl, (KeepsWalks.setCell w _ v).size, fun k _ hk => Below.heap_setCell _ _ _ k (fun e => hk (by rw [e]))⟩ (row := some b) (fun g off e q => hne g off e (Option.some.inj q).symm)
theorem line_size (s : ByteArray) (k : Nat) (hk : k < (linesOf s).length) : ((linesOf s).getD k ByteArray.empty).size ≤ s.size := by
  have hk' : k < (spl s.data.toList).length := by simpa [linesOf, linesFrom] using hk
  have e : (linesOf s).getD k ByteArray.empty = mkB ((spl s.data.toList)[k]) := by simp [linesOf, linesFrom, List.getD, hk']
  rw [e, mkB_size, ← size_eq]
  have h := (List.sublist_flatten_of_mem (List.getElem_mem hk')).length_le
  rw [spl_join] at h
  exact h
theorem unT_size (x : ByteArray) : (unT x).size ≤ x.size := by
  unfold unT
  split
  · rw [mkB_size, ← size_eq]; exact trim_len _
  · exact Nat.zero_le _
end Go.Proofs.YtgidcncmicmggamGreatDoor.Dc
