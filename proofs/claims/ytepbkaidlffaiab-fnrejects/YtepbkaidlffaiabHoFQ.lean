/- The contract of impl.HunksOf. No statement is proved here. -/
import Derived.Test.YtepbkaidlffaiabRows
import Derived.Test.YtepbkaidlffaiabLemQ
import Derived.Test.YtepbkaidlffaiabStrsQ
import Derived.Test.YtepbkaidlffaiabLFLemQ
import Derived.Test.YtepbkaidlffaiabDTabQ
import Derived.Test.YtepbkaidlffaiabOwnQ
import Derived.Test.YtepbkaidlffaiabFrQ
import Derived.Test.YtepbkaidlffaiabWvCQ
import Derived.Test.YtepbkaidlffaiabComQ
import Derived.Test.YtepbkaidlffaiabAskedQ
import Derived.Test.YtepbkaidlffaiabChgQ
import Derived.Test.YtepbkaidlffaiabEdCQ
import Derived.Test.YtepbkaidlffaiabChRQ
import Derived.Test.YtepbkaidlffaiabHkLQ
import Derived.Test.YtepbkaidlffaiabHkTQ
import Derived.Test.YtepbkaidlffaiabHfCQ
import Derived.Test.YtepbkaidlffaiabHnLQ
import Derived.Test.YtepbkaidlffaiabHrRQ
import Derived.Test.YtepbkaidlffaiabRvLQ
import Derived.Test.YtepbkaidlffaiabHoMQ
import Derived.Test.YtepbkaidlffaiabHoPQ
import Derived.Test.YtepbkaidlffaiabHoHQ
import Derived.Test.YtepbkaidlffaiabHoIQ
import Derived.WalkKit
import Derived.ProofKit
import Derived.Below
import Derived.WalkSpells
import Derived.Maps.AppendAt
namespace Go.Proofs.Ytepbkaidlffaiab
open Go.ChangeShapes Go.WideShapes Go.ChangeAt Go.RowKit

theorem CB.mono {B B' : Nat} {w : World} {a : Option Addr} {l : List Chg} (h : CB B w a l) (hB : B ≤ B') : CB B' w a l := fun k hk => by
  obtain ⟨g, off, e, hg, r⟩ := h k hk
  exact ⟨g, off, e, by omega, r⟩
theorem CB.take {B : Nat} {w : World} {a : Option Addr} {l : List Chg} (h : CB B w a l) (n : Nat) : CB B w a (l.take n) := fun k hk => by
  rw [List.length_take] at hk
  rw [getD_take4 _ _ _ (by omega)]
  exact h k (by omega)
theorem CB.seg {B : Nat} {w : World} {a : Option Addr} {l : List Chg} (h : CB B w a l) (n c : Nat) (hc : l.length ≤ c) : CB B w (if c = n then a else a.map (·.add (n * 4))) (l.drop n) := fun k hk => by
  rw [List.length_drop] at hk
  obtain ⟨g, off, e, hg, h0, h1, h2, h3⟩ := h (n + k) (by omega)
  subst e
  rw [getD_drop4]
  refine ⟨g, off + n * 4, ?_, hg, ?_, ?_, ?_, ?_⟩
  · rw [if_neg (by omega), Option.map_some, add_plain]
  · rw [show off + n * 4 + k * 4 = off + (n + k) * 4 by omega]; exact h0
  · rw [show off + n * 4 + k * 4 + 1 = off + (n + k) * 4 + 1 by omega]; exact h1
  · rw [show off + n * 4 + k * 4 + 2 = off + (n + k) * 4 + 2 by omega]; exact h2
  · rw [show off + n * 4 + k * 4 + 3 = off + (n + k) * 4 + 3 by omega]; exact h3
theorem totM {ss : List ByteArray} {x : ByteArray} (h : x ∈ ss) : (x.size : Int) ≤ tot ss := by
  induction ss with
  | nil => cases h
  | cons s t ih =>
    have e : tot (s :: t) = (s.size : Int) + tot t := by simp [tot]
    have ht := tot_nonneg t
    rcases List.mem_cons.1 h with rfl | h
    · omega
    · have := ih h; omega
/-- The length of a slice. -/
def lenV : Value → Nat
  | .slice _ n _ => n
  | _ => 0
/-- The code and the hunks that HunksOf tells. -/
def hoR (xs ys : List ByteArray) (cx : Int) : Int := if asked xs ys = 0 then (if 0 ≤ cx ∧ cx ≤ 5 then 0 else 3) else asked xs ys
def hoL (xs ys : List ByteArray) (cx : Int) : List Hk := if asked xs ys = 0 ∧ 0 ≤ cx ∧ cx ≤ 5 then hks xs ys cx (changes xs ys) else []

end Go.Proofs.Ytepbkaidlffaiab
