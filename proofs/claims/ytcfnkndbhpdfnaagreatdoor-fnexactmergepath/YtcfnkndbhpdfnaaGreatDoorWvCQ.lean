/- The contract of impl.appendCopies: lines that are copied behind others. No statement is proved here. -/
import Derived.Test.YtcfnkndbhpdfnaaGreatDoorShelfCQ
import Derived.Test.YtcfnkndbhpdfnaaGreatDoorSameCQ
namespace Go.Proofs.YtcfnkndbhpdfnaaGreatDoor
open Go.ChangeShapes Go.WideShapes Go.ChangeAt Go.RowKit
theorem cloneS (s : ByteArray) (w : World) (hlim : s.size <= 281474976710656) :
  Calls Tryz.prog 113 #[.string s] w fun e w' => e = .returned (.string s) /\ Below w.heap.size w w' := by
 go_enter Tryz.func113, Tryz.ntmps113
 go_wp2_with (go_at_call 130; refine (Tryz.stringslite_Clone _ _ hlim).mono ?_; rintro e w' ⟨rfl, hb⟩)
 go_ret
 exact ⟨rfl, hb⟩
theorem take_map_snoc (ss ms : List ByteArray) (k : Nat) (h : k < ms.length) : (ss ++ ms.take (k + 1)).map Value.string = (ss ++ ms.take k).map Value.string ++ [.string (ms.getD k ByteArray.empty)] := by
 rw [List.take_succ_eq_append_getElem h, <- List.append_assoc, List.map_append, getD_at ms k h]; rfl
theorem grownNew {a b c : World} {row row' : Option Nat} (h : a.grownBy b row) (g : b.grownBy c row') (hr : ∀ j, row' = some j -> row = some j \/ a.heap.size <= j) : a.grownBy c row :=
 ⟨g.os.trans h.os, g.tape.trans h.tape, g.output.trans h.output, Nat.le_trans h.size g.size, fun k hk hne => (g.block k (Nat.lt_of_lt_of_le hk h.size) (fun e => by
  rcases hr k e.symm with h' | h'
  ·exact hne h'.symm
  ·omega)).trans (h.block k hk hne)⟩
def CopiesPost (base n : Nat) (v : Value) (zs : List ByteArray) (w : World) (e : Ending) (w' : World) : Prop := ∃ v', e = .returned v' /\ w'.ownsRow base 9 1 v' n (zs.map Value.string) /\ w.grownBy w' v.ownBlock /\ ∀ j, v'.ownBlock = some j -> v.ownBlock = some j \/ w.heap.size <= j
set_option maxRecDepth 20000 in
set_option maxHeartbeats 2000000 in
theorem appendCopies (base : Nat) (v : Value) (ss ms : List ByteArray) (a : Option Addr) (c : Nat) (w : World) (ho : w.ownsRow base 9 1 v ss.length (ss.map Value.string)) (hm : SSB base w a ms) (hbw : base <= w.heap.size)
  (hz : ∀ k, k < ms.length -> (ms.getD k ByteArray.empty).size <= 1048576) (hn : ss.length + ms.length <= 1048576) :
  Calls Tryz.prog 199 #[v, .slice a ms.length c] w fun e w' => CopiesPost base (ss.length + ms.length) v (ss ++ ms) w e w' := by
 obtain ⟨i0, hi, hz0, hz1, hz2⟩ := info_parts infoString
 have hvb : ∀ j, v.ownBlock = some j -> base <= j := fun j hj => (ho.lt j hj).1
 go_enter Tryz.func199, Tryz.ntmps199
 go_wp2
 go_loopw [0, 9] (fun u i wr => ∃ k : Nat, k <= ms.length /\ i = .int .i64 k /\ wr.ownsRow base 9 1 u (ss.length + k) ((ss ++ ms.take k).map Value.string) /\ w.grownBy wr v.ownBlock /\ (∀ j, u.ownBlock = some j -> v.ownBlock = some j \/ w.heap.size <= j)) (fun _ i _ => ms.length - (intOf i).toNat)
 case atStart => exact ⟨0, Nat.zero_le _, rfl, by simpa using ho, World.grownBy.refl _ _, fun j hj => .inl hj⟩
 case round =>
  obtain ⟨k, hk, rfl, hown, hgr, hub⟩ := hrel
  have hsz := hgr.size
  by_cases hlt : k < ms.length
  ·have q : (k : Int) < (ms.length : Int) := by omega
   obtain ⟨b, off, e, hb, hc0⟩ := hm.2 k hlt
   have hc := hgr.cell hc0 (fun e' => by have := hvb b e'.symm; omega)
   subst e
   have hzk := hz k hlt
   have HT := take_map_snoc ss ms k hlt
   obtain ⟨s, hse⟩ : ∃ s, ms.getD k ByteArray.empty = s := ⟨_, rfl⟩
   rw [hse] at hc hzk HT
   have HT2 : Hid ((ss ++ ms.take (k + 1)).map Value.string = (ss ++ ms.take k).map Value.string ++ [.string s]) := HT
   clear HT hse hc0
   go_wp2_with fail
   refine (cloneS s _ (by omega)).mono ?_; rintro e w1 ⟨rfl, b1⟩
   have ho1 := hown.kept (grownOfBelow b1 none) (by
    rcases h : u0.ownBlock with _ | j
    ·exact .inl rfl
    ·exact .inr (by simp))
   have hg1 := grownTrans hgr (grownOfBelow b1 v.ownBlock)
   have hs1 := b1.size
   clear hown b1 hgr
   go_wp2_with ((at_builtin; refine wpList_append_own_at _ rfl (.tmp 13) (.tmp 16) 105 rfl base 9 i0 (.string ByteArray.empty) 1 16 Tryz.underlying105 hi hz0 hz1 hz2 rfl (by decide) _ _ _ rfl (ho1.alloc _) ⟨w1.heap.size, 0, none⟩ 1 1 [.string s] rfl rfl (cell_one_new _ _ _) (by simp [Value.oneCell']) (by unfold maxLen; omega) (by omega) (by simp; omega) ?_; intro v' W2 p2 g2 _ k2; have z2 := g2.size; simp only [World.size_alloc] at z2 k2))
   have HO : Hid (W2.ownsRow base 9 1 v' (ss.length + (k + 1)) ((ss ++ ms.take (k + 1)).map Value.string)) := by
    show World.ownsRow _ _ _ _ _ _ _
    rw [HT2.out]; exact p2
   have HG : Hid (w.grownBy W2 v.ownBlock) := grownNew (grownTrans hg1 (World.grownBy_alloc _ _ _)) g2 hub
   have HU : Hid (∀ j, v'.ownBlock = some j -> v.ownBlock = some j \/ w.heap.size <= j) := by
    show ∀ j, _
    intro j hj
    rcases k2 with k2 | k2
    ·exact hub j (k2 ▸ hj)
    ·rw [k2] at hj
     simp only [Option.some.injEq] at hj
     exact .inr (by omega)
   clear p2 g2 ho1 hg1 k2
   go_roundw
   case rel => exact ⟨k + 1, by omega, by first | rfl | go_num, HO.out, HG.out, HU.out⟩
   case measure => first | (simp [intOf]; omega) | simp [intOf]
  ·have q : ¬ (k : Int) < (ms.length : Int) := by omega
   have HF : Hid (CopiesPost base (ss.length + ms.length) v (ss ++ ms) w (.returned u0) wr) := by
    have e : k = ms.length := by omega
    rw [e, List.take_of_length_le (Nat.le_refl _)] at hown
    exact ⟨u0, rfl, hown, hgr, hub⟩
   clear hown hgr hub
   go_wp2
   go_ret
   exact HF.out
theorem segSSB {B : Nat} {w : World} {a : Option Addr} {xs : List ByteArray} (h : SSB B w a xs) (i j c : Nat) (h1 : i <= j) (h2 : j <= xs.length) (hc : xs.length <= c) :
  SSB B w (if c = i then a else a.map (·.add i)) ((xs.drop i).take (j - i)) := by
 have hl : ((xs.drop i).take (j - i)).length = j - i := by rw [List.length_take, List.length_drop]; omega
 have hg : ∀ k, k < j - i -> ((xs.drop i).take (j - i)).getD k ByteArray.empty = xs.getD (i + k) ByteArray.empty := by
  intro k hk
  simp [List.getD, hk]
 refine ⟨fun k hk => ?_, fun k hk => ?_⟩
 ·rw [hl] at hk
  rw [hg k hk]; exact h.1 (i + k) (by omega)
 ·rw [hl] at hk
  obtain ⟨b, off, e, hb, hcell⟩ := h.2 (i + k) (by omega)
  subst e
  refine ⟨b, off + i, ?_, hb, ?_⟩
  ·rw [if_neg (by omega), Option.map_some, add_plain]
  ·rw [hg k hk, Nat.add_assoc]; exact hcell
theorem seg_small {xs : List ByteArray} {Z : Nat} (hz : ∀ x ∈ xs, x.size <= Z) (i j : Nat) : ∀ k, k < ((xs.drop i).take (j - i)).length -> (((xs.drop i).take (j - i)).getD k ByteArray.empty).size <= Z := by
 intro k hk
 rw [getD_at _ k hk]
 exact hz _ (List.mem_of_mem_drop (List.mem_of_mem_take (List.getElem_mem hk)))
end Go.Proofs.YtcfnkndbhpdfnaaGreatDoor
namespace Go.Proofs.YtcfnkndbhpdfnaaGreatDoor
open Go.ChangeShapes Go.WideShapes Go.ChangeAt Go.RowKit
theorem copyNew (ms : List ByteArray) (a : Option Addr) (c : Nat) (w : World) (hm : SS w a ms) (hz : ∀ k, k < ms.length -> (ms.getD k ByteArray.empty).size <= 1048576) (hn : ms.length <= 1048576) :
  Calls Tryz.prog 199 #[.slice none 0 0, .slice a ms.length c] w fun e w' => RP ms w e w' :=
 (appendCopies w.heap.size (.slice none 0 0) [] ms a c w ⟨rfl, .inl ⟨rfl, rfl⟩⟩ hm (Nat.le_refl _) hz (by simpa using hn)).mono fun _ _ ⟨v, he, ho, hg, _⟩ => by
  refine ⟨v, he, by simpa using ho, ?_⟩
  exact ⟨hg.os, hg.tape, hg.output, hg.size, fun k hk => hg.block k hk (by simp [Value.ownBlock])⟩
end Go.Proofs.YtcfnkndbhpdfnaaGreatDoor
