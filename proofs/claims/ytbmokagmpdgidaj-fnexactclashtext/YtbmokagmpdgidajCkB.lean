/- The contracts of linesOfSide and l4Side: the lines of one side of all chunks. No statement is proved here. -/
import Derived.Test.YtbmokagmpdgidajRows
import Derived.Test.YtbmokagmpdgidajLem
import Derived.Test.YtbmokagmpdgidajStrs
import Derived.Test.YtbmokagmpdgidajLFLem
import Derived.Test.YtbmokagmpdgidajLF
import Derived.Test.YtbmokagmpdgidajDTab
import Derived.Test.YtbmokagmpdgidajOwn
import Derived.Test.YtbmokagmpdgidajFr
import Derived.Test.YtbmokagmpdgidajIn
import Derived.Test.YtbmokagmpdgidajCkL
import Derived.Test.YtbmokagmpdgidajCkC
import Derived.WalkKit
import Derived.ProofKit
import Derived.Below
import Derived.WalkSpells
import Derived.Deep.QuietTactic
import Derived.BigQuiet
import Derived.Maps.AppendAt
import Derived.Laws.AppendOwnNone
namespace Go.Proofs.Ytbmokagmpdgidaj
open Go.ChangeShapes Go.WideShapes Go.ChangeAt Go.RowKit

/-- append of lines that can be read, or of nil, onto a row of lines that is owned. -/
theorem wpList_appN {w : World} {ops : Array Oper} {rest : List Oper} {o : Oper} {a : Act} {Q : Exit → Act → World → Prop} (hgd : o.guard = none) (s x : Operand)
    (ho : o.op = .call { callee := .builtin .append, args := #[s, x], argTypes := #[35, 35] })
    (base B : Nat) (v : Value) (S0 : List ByteArray) (hs : a.eval s = v) (hown : w.ownsRow base 9 1 v S0.length (S0.map Value.string))
    (ax : Option Addr) (cx : Nat) (S1 : List ByteArray) (hx : a.eval x = .slice ax S1.length cx) (hx2 : SSN B w ax cx S1)
    (hb : S0.length + S1.length ≤ 1048576) (hbase : base ≤ w.heap.size)
    (h : ∀ v' w', w'.ownsRow base 9 1 v' (S0 ++ S1).length ((S0 ++ S1).map Value.string) → w.grownBy w' v.ownBlock → (v'.ownBlock = v.ownBlock ∨ v'.ownBlock = some w.heap.size) → wpList Try.prog ops Q rest (a.put o.dst v') w') :
    wpList Try.prog ops Q (o :: rest) a w := by
  obtain ⟨i0, hi, hz0, hz1, hz2⟩ := info_parts infoString
  cases ax with
  | none =>
    have e3 : S1 = [] := by
      cases S1 with
      | nil => rfl
      | cons z zs => obtain ⟨b, off, e, _⟩ := hx2.1.2 0 (by simp); cases e
    subst e3
    have ec := hx2.2 rfl
    subst ec
    refine wpList_append_own_none hgd s x _ ho base _ i0 1 Try.underlying35 hi v _ _ hs hown hx ?_
    exact h v w (by simpa using hown) (World.grownBy.refl _ _) (.inl rfl)
  | some AD =>
    refine wpList_append_own_at _ hgd s x _ ho base _ i0 (.string ByteArray.empty) 1 16 Try.underlying35 hi hz0 hz1 hz2 rfl (by decide) v _ _ hs hown AD S1.length cx (S1.map Value.string) hx (by simp) (newsOf hx2.1) (oneStr _) (by unfold maxLen; omega) (by omega) hbase ?_
    intro v' w' o1 g1 _ k1
    refine h v' w' ?_ g1 k1
    rw [List.length_append, List.map_append]; exact o1
/-- A row of lines, in memory of its own. -/
def RP (L : List ByteArray) (w : World) (e : Ending) (w' : World) : Prop := ∃ v, e = .returned v ∧ w'.ownsRow w.heap.size 9 1 v L.length (L.map Value.string) ∧ Below w.heap.size w w'

set_option maxRecDepth 20000 in
set_option maxHeartbeats 2000000 in
theorem linesOfSide (i : Nat) (hi : i < 3) (a : Option Addr) (c : Nat) (l : List Ck) (w : World) (h : KB w.heap.size w a l) (hn : l.length ≤ 1048576) (hs : (sideL i l).length ≤ 1048576) :
    Calls Try.prog 48 #[.slice a l.length c, .int .i64 i] w fun e w' => RP (sideL i l) w e w' := by
  go_enter Try.func48, Try.ntmps48
  go_wp2
  go_loopw [5, 10] (fun v j wr => ∃ k : Nat, k ≤ l.length ∧ j = .int .i64 k ∧ wr.ownsRow w.heap.size 9 1 v (sideL i (l.take k)).length ((sideL i (l.take k)).map Value.string) ∧ Below w.heap.size w wr) (fun _ j _ => l.length - (intOf j).toNat)
  case atStart => exact ⟨0, Nat.zero_le _, rfl, ⟨rfl, .inl ⟨rfl, rfl⟩⟩, Below.refl _ _⟩
  case round =>
    obtain ⟨k, hk, rfl, hown, hbel⟩ := hrel
    have hsz := hbel.size
    by_cases hlt : k < l.length
    · have q : (k : Int) < (l.length : Int) := by omega
      obtain ⟨g, off, a1, c1, a2, c2, a3, c3, e, hg, d0, d1, d2, d3, s1, s2, s3⟩ := h.below hbel k hlt
      subst e
      have hT := sideL_take i l k hlt
      have hle := side_take_le i (k + 1) l
      rw [hT, List.length_append] at hle
      obtain ⟨C, hCe⟩ : ∃ C, l.getD k cnil = C := ⟨_, rfl⟩
      obtain ⟨x0, x1, x2, x3⟩ := C
      rw [hCe] at d0 d1 d2 d3 s1 s2 s3 hT hle
      simp only [] at d0 d1 d2 d3 s1 s2 s3
      have HT : Hid (sideL i (l.take (k + 1)) = sideL i (l.take k) ++ sd i (x0, x1, x2, x3)) := hT
      obtain ⟨ai, ci, ix, si⟩ : ∃ ai ci, (∀ w, (Instr.index 64 (.agg #[.slice a1 x1.length c1, .slice a2 x2.length c2, .slice a3 x3.length c3]) (.int .i64 (i : Int))).run Try.prog w = .ok (.slice ai (sd i (x0, x1, x2, x3)).length ci) w) ∧ SSN w.heap.size wr ai ci (sd i (x0, x1, x2, x3)) := by
        have h3 : i = 0 ∨ i = 1 ∨ i = 2 := by omega
        rcases h3 with rfl | rfl | rfl
        · exact ⟨a1, c1, fun _ => by kernel_rfl, s1⟩
        · exact ⟨a2, c2, fun _ => by kernel_rfl, s2⟩
        · exact ⟨a3, c3, fun _ => by kernel_rfl, s3⟩
      obtain ⟨S1, hS1⟩ : ∃ S, sd i (x0, x1, x2, x3) = S := ⟨_, rfl⟩
      obtain ⟨S0, hS0⟩ : ∃ S, sideL i (l.take k) = S := ⟨_, rfl⟩
      rw [hS1] at HT ix si hle
      rw [hS0] at HT hown hle
      clear hT hCe hS1 hS0 s1 s2 s3 h
      obtain ⟨W, hW⟩ : ∃ W, wr.alloc (.cells #[.int .i64 x0, .slice a1 x1.length c1, .slice a2 x2.length c2, .slice a3 x3.length c3] 53) = W := ⟨_, rfl⟩
      have hR : Rs W wr.heap.size [.int .i64 x0, .slice a1 x1.length c1, .slice a2 x2.length c2, .slice a3 x3.length c3] := by rw [← hW]; exact Rs.new _ _ _
      have bW : Below wr.heap.size wr W := by rw [← hW]; exact allocBelow _ _
      have hBW := below_step hbel hsz bW
      have oW := (Fr.ofBelow (lo := 0) (hi := 0) bW).own hown (fun _ _ => .inr (Nat.zero_le _))
      have r0 := hR 0 _ rfl
      have r1 := hR 1 _ rfl
      have r2 := hR 2 _ rfl
      have r3 := hR 3 _ rfl
      have sW := si.below bW
      clear hown si hR
      go_wp2_with fail
      refine (listsOf _ _ _ _ _ _ _ _ _ _ _).mono ?_; rintro e w2 ⟨rfl, b2⟩
      have o2 := (Fr.ofBelow (lo := 0) (hi := 0) b2).own oW (fun _ _ => .inr (Nat.zero_le _))
      have s2 := sW.below b2
      have hB2 := below_step hBW hBW.size b2
      clear oW sW bW b2 r0 r1 r2 r3
      have z2 := hB2.size
      go_wp2_with (at_builtin; refine wpList_appN rfl (.tmp 14) (.tmp 18) rfl w.heap.size w.heap.size _ _ rfl o2 _ _ _ rfl s2 (by omega) z2 ?_; intro v3 w3 o3 g3 _)
      have hB3 : Below w.heap.size w w3 := hB2.grown g3 z2 (fun j hj => (o2.lt j hj).1)
      rw [← HT.out] at o3
      clear o2 s2 g3 hB2
      go_roundw
      case rel => exact ⟨k + 1, by omega, by go_num, o3, hB3⟩
      case measure => first | (simp [intOf]; omega) | simp [intOf]
    · have q : ¬ (k : Int) < (l.length : Int) := by omega
      rw [List.take_of_length_le (by omega)] at hown
      go_wp2
      go_ret
      exact ⟨_, rfl, hown, hbel⟩

set_option maxRecDepth 20000 in
set_option maxHeartbeats 2000000 in
theorem l4Side0 (a : Option Addr) (c : Nat) (l : List Ck) (w : World) (h : KB w.heap.size w a l) (hn : l.length ≤ 1048576) (hs : (sideL 0 l).length ≤ 1048576) :
    Calls Try.prog 44 #[.slice a l.length c, .int .i64 0] w fun e w' => RP (sideL 0 l) w e w' := by
  go_enter Try.func44, Try.ntmps44
  go_wp2
  go_loopw [5, 6] (fun v j wr => ∃ k : Nat, k ≤ l.length ∧ j = .int .i64 k ∧ wr.ownsRow w.heap.size 9 1 v (sideL 0 (l.take k)).length ((sideL 0 (l.take k)).map Value.string) ∧ Below w.heap.size w wr) (fun _ j _ => l.length - (intOf j).toNat)
  case atStart => exact ⟨0, Nat.zero_le _, rfl, World.ownsRow_lit w #[] 0 (Nat.le_refl _) (Nat.zero_le _) rfl, allocBelow _ _⟩
  case round =>
    obtain ⟨k, hk, rfl, hown, hbel⟩ := hrel
    have hsz := hbel.size
    by_cases hlt : k < l.length
    · have q : (k : Int) < (l.length : Int) := by omega
      obtain ⟨g, off, a1, c1, a2, c2, a3, c3, e, hg, d0, d1, d2, d3, s1, s2, s3⟩ := h.below hbel k hlt
      subst e
      have hT := sideL_take 0 l k hlt
      have hle := side_take_le 0 (k + 1) l
      rw [hT, List.length_append] at hle
      obtain ⟨C, hCe⟩ : ∃ C, l.getD k cnil = C := ⟨_, rfl⟩
      obtain ⟨x0, x1, x2, x3⟩ := C
      rw [hCe] at d0 d1 d2 d3 s1 s2 s3 hT hle
      simp only [] at d0 d1 d2 d3 s1 s2 s3
      have HT : Hid (sideL 0 (l.take (k + 1)) = sideL 0 (l.take k) ++ x1) := hT
      replace hle : (sideL 0 (l.take k)).length + x1.length ≤ (sideL 0 l).length := hle
      obtain ⟨S0, hS0⟩ : ∃ S, sideL 0 (l.take k) = S := ⟨_, rfl⟩
      rw [hS0] at HT hown hle
      clear hT hCe hS0 h
      go_wp2_with (at_builtin; refine wpList_appN rfl (.tmp 17) (.tmp 22) rfl w.heap.size w.heap.size _ _ rfl hown _ _ _ rfl s1 (by omega) hsz ?_; intro v3 w3 o3 g3 _)
      have hB3 : Below w.heap.size w w3 := hbel.grown g3 hsz (fun j hj => (hown.lt j hj).1)
      rw [← HT.out] at o3
      clear hown s1 s2 s3 g3 hbel d0 d1 d2 d3
      go_roundw
      case rel => exact ⟨k + 1, by omega, by go_num, o3, hB3⟩
      case measure => first | (simp [intOf]; omega) | simp [intOf]
    · have q : ¬ (k : Int) < (l.length : Int) := by omega
      rw [List.take_of_length_le (by omega)] at hown
      go_wp2
      go_ret
      exact ⟨_, rfl, hown, hbel⟩

set_option maxRecDepth 20000 in
set_option maxHeartbeats 2000000 in
theorem l4Side1 (a : Option Addr) (c : Nat) (l : List Ck) (w : World) (h : KB w.heap.size w a l) (hn : l.length ≤ 1048576) (hs : (sideL 1 l).length ≤ 1048576) :
    Calls Try.prog 44 #[.slice a l.length c, .int .i64 1] w fun e w' => RP (sideL 1 l) w e w' := by
  go_enter Try.func44, Try.ntmps44
  go_wp2
  go_loopw [5, 6] (fun v j wr => ∃ k : Nat, k ≤ l.length ∧ j = .int .i64 k ∧ wr.ownsRow w.heap.size 9 1 v (sideL 1 (l.take k)).length ((sideL 1 (l.take k)).map Value.string) ∧ Below w.heap.size w wr) (fun _ j _ => l.length - (intOf j).toNat)
  case atStart => exact ⟨0, Nat.zero_le _, rfl, World.ownsRow_lit w #[] 0 (Nat.le_refl _) (Nat.zero_le _) rfl, allocBelow _ _⟩
  case round =>
    obtain ⟨k, hk, rfl, hown, hbel⟩ := hrel
    have hsz := hbel.size
    by_cases hlt : k < l.length
    · have q : (k : Int) < (l.length : Int) := by omega
      obtain ⟨g, off, a1, c1, a2, c2, a3, c3, e, hg, d0, d1, d2, d3, s1, s2, s3⟩ := h.below hbel k hlt
      subst e
      have hT := sideL_take 1 l k hlt
      have hle := side_take_le 1 (k + 1) l
      rw [hT, List.length_append] at hle
      obtain ⟨C, hCe⟩ : ∃ C, l.getD k cnil = C := ⟨_, rfl⟩
      obtain ⟨x0, x1, x2, x3⟩ := C
      rw [hCe] at d0 d1 d2 d3 s1 s2 s3 hT hle
      simp only [] at d0 d1 d2 d3 s1 s2 s3
      have HT : Hid (sideL 1 (l.take (k + 1)) = sideL 1 (l.take k) ++ x2) := hT
      replace hle : (sideL 1 (l.take k)).length + x2.length ≤ (sideL 1 l).length := hle
      obtain ⟨S0, hS0⟩ : ∃ S, sideL 1 (l.take k) = S := ⟨_, rfl⟩
      rw [hS0] at HT hown hle
      clear hT hCe hS0 h
      go_wp2_with (at_builtin; refine wpList_appN rfl (.tmp 26) (.tmp 31) rfl w.heap.size w.heap.size _ _ rfl hown _ _ _ rfl s2 (by omega) hsz ?_; intro v3 w3 o3 g3 _)
      have hB3 : Below w.heap.size w w3 := hbel.grown g3 hsz (fun j hj => (hown.lt j hj).1)
      rw [← HT.out] at o3
      clear hown s1 s2 s3 g3 hbel d0 d1 d2 d3
      go_roundw
      case rel => exact ⟨k + 1, by omega, by go_num, o3, hB3⟩
      case measure => first | (simp [intOf]; omega) | simp [intOf]
    · have q : ¬ (k : Int) < (l.length : Int) := by omega
      rw [List.take_of_length_le (by omega)] at hown
      go_wp2
      go_ret
      exact ⟨_, rfl, hown, hbel⟩

set_option maxRecDepth 20000 in
set_option maxHeartbeats 2000000 in
theorem l4Side2 (a : Option Addr) (c : Nat) (l : List Ck) (w : World) (h : KB w.heap.size w a l) (hn : l.length ≤ 1048576) (hs : (sideL 2 l).length ≤ 1048576) :
    Calls Try.prog 44 #[.slice a l.length c, .int .i64 2] w fun e w' => RP (sideL 2 l) w e w' := by
  go_enter Try.func44, Try.ntmps44
  go_wp2
  go_loopw [5, 6] (fun v j wr => ∃ k : Nat, k ≤ l.length ∧ j = .int .i64 k ∧ wr.ownsRow w.heap.size 9 1 v (sideL 2 (l.take k)).length ((sideL 2 (l.take k)).map Value.string) ∧ Below w.heap.size w wr) (fun _ j _ => l.length - (intOf j).toNat)
  case atStart => exact ⟨0, Nat.zero_le _, rfl, World.ownsRow_lit w #[] 0 (Nat.le_refl _) (Nat.zero_le _) rfl, allocBelow _ _⟩
  case round =>
    obtain ⟨k, hk, rfl, hown, hbel⟩ := hrel
    have hsz := hbel.size
    by_cases hlt : k < l.length
    · have q : (k : Int) < (l.length : Int) := by omega
      obtain ⟨g, off, a1, c1, a2, c2, a3, c3, e, hg, d0, d1, d2, d3, s1, s2, s3⟩ := h.below hbel k hlt
      subst e
      have hT := sideL_take 2 l k hlt
      have hle := side_take_le 2 (k + 1) l
      rw [hT, List.length_append] at hle
      obtain ⟨C, hCe⟩ : ∃ C, l.getD k cnil = C := ⟨_, rfl⟩
      obtain ⟨x0, x1, x2, x3⟩ := C
      rw [hCe] at d0 d1 d2 d3 s1 s2 s3 hT hle
      simp only [] at d0 d1 d2 d3 s1 s2 s3
      have HT : Hid (sideL 2 (l.take (k + 1)) = sideL 2 (l.take k) ++ x3) := hT
      replace hle : (sideL 2 (l.take k)).length + x3.length ≤ (sideL 2 l).length := hle
      obtain ⟨S0, hS0⟩ : ∃ S, sideL 2 (l.take k) = S := ⟨_, rfl⟩
      rw [hS0] at HT hown hle
      clear hT hCe hS0 h
      go_wp2_with (at_builtin; refine wpList_appN rfl (.tmp 35) (.tmp 40) rfl w.heap.size w.heap.size _ _ rfl hown _ _ _ rfl s3 (by omega) hsz ?_; intro v3 w3 o3 g3 _)
      have hB3 : Below w.heap.size w w3 := hbel.grown g3 hsz (fun j hj => (hown.lt j hj).1)
      rw [← HT.out] at o3
      clear hown s1 s2 s3 g3 hbel d0 d1 d2 d3
      go_roundw
      case rel => exact ⟨k + 1, by omega, by go_num, o3, hB3⟩
      case measure => first | (simp [intOf]; omega) | simp [intOf]
    · have q : ¬ (k : Int) < (l.length : Int) := by omega
      rw [List.take_of_length_le (by omega)] at hown
      go_wp2
      go_ret
      exact ⟨_, rfl, hown, hbel⟩

theorem l4Side (i : Nat) (hi : i < 3) (a : Option Addr) (c : Nat) (l : List Ck) (w : World) (h : KB w.heap.size w a l) (hn : l.length ≤ 1048576) (hs : (sideL i l).length ≤ 1048576) :
    Calls Try.prog 44 #[.slice a l.length c, .int .i64 i] w fun e w' => RP (sideL i l) w e w' := by
  have h3 : i = 0 ∨ i = 1 ∨ i = 2 := by omega
  rcases h3 with rfl | rfl | rfl
  · exact l4Side0 a c l w h hn hs
  · exact l4Side1 a c l w h hn hs
  · exact l4Side2 a c l w h hn hs
end Go.Proofs.Ytbmokagmpdgidaj
