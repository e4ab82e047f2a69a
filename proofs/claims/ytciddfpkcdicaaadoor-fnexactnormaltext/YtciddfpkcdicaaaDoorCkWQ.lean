/- The contracts of WeaveSide (the program's and the specification's). No statement is proved here. -/
import Derived.Test.YtciddfpkcdicaaaDoorRows
import Derived.Test.YtciddfpkcdicaaaDoorLemQ
import Derived.Test.YtciddfpkcdicaaaDoorLFLemQ
import Derived.Test.YtciddfpkcdicaaaDoorDTabQ
import Derived.Test.YtciddfpkcdicaaaDoorHkTQ
import Derived.Test.YtciddfpkcdicaaaDoorWvCQ
import Derived.Test.YtciddfpkcdicaaaDoorCkLQ
import Derived.Test.YtciddfpkcdicaaaDoorCkCQ
import Derived.Test.YtciddfpkcdicaaaDoorCkBQ
import Derived.WalkKit
import Derived.ProofKit
import Derived.Below
import Derived.WalkSpells
import Derived.Deep.QuietTactic
import Derived.BigQuiet
namespace Go.Proofs.YtciddfpkcdicaaaDoor
open Go.ChangeShapes Go.WideShapes Go.ChangeAt Go.RowKit

theorem size_tot {ss : List ByteArray} (k : Nat) (h : k < ss.length) : ((ss.getD k ByteArray.empty).size : Int) ≤ tot ss := by
  have h1 := tot_take ss k h
  have h2 := tot_take_le ss (k + 1)
  have h3 := tot_nonneg (ss.take k)
  omega
/-- Lines that are copied into new memory. -/
theorem copyNew (ms : List ByteArray) (a : Option Addr) (c : Nat) (w : World) (hm : SS w a ms) (hz : ∀ k, k < ms.length → (ms.getD k ByteArray.empty).size ≤ 1048576) (hn : ms.length ≤ 1048576) :
    Calls Tryd.prog 77 #[.slice none 0 0, .slice a ms.length c] w fun e w' => RP ms w e w' :=
  (appendCopies w.heap.size (.slice none 0 0) [] ms a c w ⟨rfl, .inl ⟨rfl, rfl⟩⟩ hm (Nat.le_refl _) hz (by simpa using hn)).mono fun _ _ ⟨v, he, ho, hg, _⟩ => by
    refine ⟨v, he, by simpa using ho, ?_⟩
    exact ⟨hg.os, hg.tape, hg.output, hg.size, fun k hk => hg.block k hk (by simp [Value.ownBlock])⟩
/-- What WeaveSide answers. -/
def wsR (l : List Ck) (s : Int) : Int := if ¬ cf l = 0 then cf l else if inB s 0 2 = false then 3 else 0
def wsL (l : List Ck) (s : Int) : List ByteArray := if wsR l s = 0 then sideL s.toNat l else []
theorem wsR_fault {l : List Ck} {s : Int} (h : ¬ cf l = 0) : wsR l s = cf l := if_pos h
theorem wsR_range {l : List Ck} {s : Int} (h : cf l = 0) (k : inB s 0 2 = false) : wsR l s = 3 := by unfold wsR; rw [if_neg (by simp [h]), if_pos k]
theorem wsR_ok {l : List Ck} {s : Int} (h : cf l = 0) (k : inB s 0 2 = true) : wsR l s = 0 := by unfold wsR; rw [if_neg (by simp [h]), if_neg (by rw [k]; decide)]
theorem wsL_no {l : List Ck} {s : Int} (h : ¬ wsR l s = 0) : wsL l s = [] := if_neg h
theorem wsL_ok {l : List Ck} {s : Int} (h : wsR l s = 0) : wsL l s = sideL s.toNat l := if_pos h
theorem nilRow (base : Nat) (w : World) (t : TypeId) : w.ownsRow base t 1 (.slice none 0 0) 0 [] := ⟨rfl, .inl ⟨rfl, rfl⟩⟩

end Go.Proofs.YtciddfpkcdicaaaDoor
