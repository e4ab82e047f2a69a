/- Bounds of chunks that are swapped. No statement is proved here. -/
import Derived.Test.YtdememmijbbpfajRows
import Derived.Test.YtdememmijbbpfajLem
import Derived.Test.YtdememmijbbpfajStrs
import Derived.Test.YtdememmijbbpfajCkL
import Derived.Test.YtdememmijbbpfajCkN
import Derived.Test.YtdememmijbbpfajOpK
import Derived.Test.YtdememmijbbpfajCkM
import Derived.Test.YtdememmijbbpfajCkR
import Derived.Test.YtdememmijbbpfajCkW
import Derived.Test.YtdememmijbbpfajCkX
namespace Go.Proofs.Ytdememmijbbpfaj

theorem tiny_of {l : List Ck} (h : allT (lnsAll l) ≤ 1048576) : TinyK l := fun ss hs k hk => by
  have h1 := (mem_allL hs).2
  have h2 := size_tot k hk
  omega
theorem sw_mem {l : List Ck} {ss : List ByteArray} (h : ss ∈ lnsAll (swL l)) : ss ∈ lnsAll l := by
  unfold swL at h
  split at h
  · obtain ⟨c, hc, hq⟩ := mem_of_lns h
    obtain ⟨d, hd, rfl⟩ := List.mem_map.1 hc
    obtain ⟨m1, m2, m3⟩ := mem_lns hd
    rcases hq with rfl | rfl | rfl
    · exact m1
    · exact m3
    · exact m2
  · cases h
theorem sw_short {l : List Ck} (h : ShortK l) : ShortK (swL l) := fun ss hs => h ss (sw_mem hs)
theorem sw_fits {l : List Ck} (h : FitsK l) : FitsK (swL l) := fun ss hs => h ss (sw_mem hs)
theorem sw_length (l : List Ck) : (swL l).length ≤ l.length := by
  unfold swL
  split
  · simp
  · simp
theorem sw_marks (l : List Ck) : mkK (swL l) (swL l).length ≤ mkK l l.length := by
  unfold swL
  split
  · unfold mkK
    rw [List.take_length, List.take_length, List.map_map]
    apply Nat.le_of_eq
    congr 1
    apply List.map_congr_left
    intro c _
    show 1 + c.2.1.length + c.2.2.2.length + c.2.2.1.length = 1 + c.2.1.length + c.2.2.1.length + c.2.2.2.length
    omega
  · simp [mkK]
end Go.Proofs.Ytdememmijbbpfaj
