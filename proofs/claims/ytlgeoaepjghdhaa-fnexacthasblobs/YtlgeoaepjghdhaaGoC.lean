/- The contract of the program's GetObject. No statement is proved here. -/
import Derived.Test.YtlgeoaepjghdhaaRows
import Derived.Test.YtlgeoaepjghdhaaShH
import Derived.WalkKit
import Derived.ProofKit
import Derived.Below
import Derived.WalkSpells
import Derived.Laws.Cover1
import Derived.Deep.RegionWith
import Derived.Deep.RegionHeld
import Derived.Deep.CutRange
namespace Go.Proofs.Ytlgeoaepjghdhaa
open Go.ChangeShapes Go.WideShapes Go.ChangeAt Go.RowKit

def fo (l : List Ob) (kd : Int) (id : ByteArray) : Ob := match gt l kd id with
  | some D => (id, kd, D)
  | none => onil
theorem findC (p b : Nat) (l : List Ob) (x : Value) (kd : Int) (id : ByteArray) (w : World) (hf : sf l = 0) (hR : Rf w p [.map (some b), x]) (hp : p < w.heap.size) (hS : Sh w b l) :
    Calls Try.prog 93 #[.pointer (some ⟨p, 0, none⟩), .int .i64 kd, .string id] w fun e w' => e = .returned (.tuple #[.agg #[.string (fo l kd id).1, .int .i64 (fo l kd id).2.1, .string (fo l kd id).2.2], .bool (gt l kd id).isSome]) ∧ Below w.heap.size w w' := by
  cases hid : idB id.data.toList with
  | false =>
    have hg := gt_noid (k := kd) hf hid
    unfold fo
    rw [hg]
    exact findNo p kd id w hid
  | true =>
    rcases fz_cases l id with e | ⟨k, e, hk, e2⟩
    · have hg := gt_less (k := kd) e
      unfold fo
      rw [hg]
      exact findId p b l x ⟨#[]⟩ ⟨#[]⟩ 0 false false ⟨#[]⟩ ⟨#[]⟩ 0 kd id w hid hR hp hS (fun w h => h.miss (idB_size hid) (fz_out e)) (fun h => by cases h) (fun _ => ⟨rfl, rfl, rfl, rfl⟩)
    · obtain ⟨o, ho⟩ : ∃ o, l.getD k onil = o := ⟨_, rfl⟩
      have hm := ob_mem l k hk
      have hy := fun h => gt_yes (l := l) (k := kd) e h
      have hn := fun h => gt_no (l := l) (k := kd) e h
      rw [ho] at e2 hm hy hn
      have hlk : ∀ w, Sh w b l → (Instr.lookup 139 (.map (some b)) (kv id) true).run Try.prog w = .ok (.tuple #[.agg #[.string o.1, .int .i64 o.2.1, .string o.2.2], .bool true]) w := fun w h => by
        have := h.hit hm
        rw [e2] at this
        rw [this]; unfold obV; rw [e2]
      by_cases hkd : o.2.1 = kd
      · unfold fo
        rw [hy hkd]
        exact findId p b l x o.1 o.2.2 o.2.1 true true id o.2.2 kd kd id w hid hR hp hS hlk (fun _ _ => ⟨rfl, e2.symm, hkd.symm, rfl⟩) (fun h => by rcases h with h | h; cases h; exact absurd hkd h)
      · unfold fo
        rw [hn hkd]
        exact findId p b l x o.1 o.2.2 o.2.1 true false ⟨#[]⟩ ⟨#[]⟩ 0 kd id w hid hR hp hS hlk (fun _ h => absurd h hkd) (fun _ => ⟨rfl, rfl, rfl, rfl⟩)
end Go.Proofs.Ytlgeoaepjghdhaa
