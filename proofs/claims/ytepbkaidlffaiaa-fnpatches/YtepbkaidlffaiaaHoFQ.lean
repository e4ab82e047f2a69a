/- The contract of impl.HunksOf. No statement is proved here. -/
import Derived.Test.YtepbkaidlffaiaaRows
import Derived.Test.YtepbkaidlffaiaaLemQ
import Derived.Test.YtepbkaidlffaiaaStrsQ
import Derived.Test.YtepbkaidlffaiaaLFLemQ
import Derived.Test.YtepbkaidlffaiaaDTabQ
import Derived.Test.YtepbkaidlffaiaaOwnQ
import Derived.Test.YtepbkaidlffaiaaFrQ
import Derived.Test.YtepbkaidlffaiaaWvCQ
import Derived.Test.YtepbkaidlffaiaaComQ
import Derived.Test.YtepbkaidlffaiaaAskedQ
import Derived.Test.YtepbkaidlffaiaaChgQ
import Derived.Test.YtepbkaidlffaiaaEdCQ
import Derived.Test.YtepbkaidlffaiaaChRQ
import Derived.Test.YtepbkaidlffaiaaHkLQ
import Derived.Test.YtepbkaidlffaiaaHkTQ
import Derived.Test.YtepbkaidlffaiaaHfCQ
import Derived.Test.YtepbkaidlffaiaaHnLQ
import Derived.Test.YtepbkaidlffaiaaHrRQ
import Derived.Test.YtepbkaidlffaiaaRvLQ
import Derived.Test.YtepbkaidlffaiaaHoMQ
import Derived.Test.YtepbkaidlffaiaaHoPQ
import Derived.Test.YtepbkaidlffaiaaHoHQ
import Derived.Test.YtepbkaidlffaiaaHoIQ
import Derived.WalkKit
import Derived.ProofKit
import Derived.Below
import Derived.WalkSpells
import Derived.Maps.AppendAt
namespace Go.Proofs.Ytepbkaidlffaiaa
open Go.ChangeShapes Go.WideShapes Go.ChangeAt Go.RowKit

theorem CB.mono {B B' : Nat} {w : World} {a : Option Addr} {l : List Chg} (h : CB B w a l) (hB : B ≤ B') : CB B' w a l := fun k hk => by
  obtain ⟨g, off, e, hg, r⟩ := h k hk
  exact ⟨g, off, e, by omega, r⟩
theorem CB.take {B : Nat} {w : World} {a : Option Addr} {l : List Chg} (h : CB B w a l) (n : Nat) : CB B w a (l.take n) := fun k hk => by
  rw [List.length_take] at hk
  rw [getD_take4 _ _ _ (by omega)]
  exact h k (by omega)
theorem CB.seg {B : Nat} {w : World} {a : Option Addr} {l : List Chg} (h : CB B w a l) (n c : Nat) (hc : l.length ≤ c) : CB B w (if c = n then a else a.map (·.add (n * 4))) (l.drop n) := fun k hk => by
  rw [List.length_drop] at hk
  obtain ⟨g, off, e, hg, h0, h1, h2, h3⟩ := h (n + k) (by omega)
  subst e
  rw [getD_drop4]
  refine ⟨g, off + n * 4, ?_, hg, ?_, ?_, ?_, ?_⟩
  · rw [if_neg (by omega), Option.map_some, add_plain]
  · rw [show off + n * 4 + k * 4 = off + (n + k) * 4 by omega]; exact h0
  · rw [show off + n * 4 + k * 4 + 1 = off + (n + k) * 4 + 1 by omega]; exact h1
  · rw [show off + n * 4 + k * 4 + 2 = off + (n + k) * 4 + 2 by omega]; exact h2
  · rw [show off + n * 4 + k * 4 + 3 = off + (n + k) * 4 + 3 by omega]; exact h3
theorem totM {ss : List ByteArray} {x : ByteArray} (h : x ∈ ss) : (x.size : Int) ≤ tot ss := by
  induction ss with
  | nil => cases h
  | cons s t ih =>
    have e : tot (s :: t) = (s.size : Int) + tot t := by simp [tot]
    have ht := tot_nonneg t
    rcases List.mem_cons.1 h with rfl | h
    · omega
    · have := ih h; omega
/-- The length of a slice. -/
def lenV : Value → Nat
  | .slice _ n _ => n
  | _ => 0
/-- The code and the hunks that HunksOf tells. -/
def hoR (xs ys : List ByteArray) (cx : Int) : Int := if asked xs ys = 0 then (if 0 ≤ cx ∧ cx ≤ 5 then 0 else 3) else asked xs ys
def hoL (xs ys : List ByteArray) (cx : Int) : List Hk := if asked xs ys = 0 ∧ 0 ≤ cx ∧ cx ≤ 5 then hks xs ys cx (changes xs ys) else []

set_option maxRecDepth 20000 in
set_option maxHeartbeats 4000000 in
theorem implHunks (cx : Int) (hc0 : 0 ≤ cx) (hc5 : cx ≤ 5) (a1 a2 : Option Addr) (c1 c2 : Nat) (xs ys : List ByteArray) (w : World) (h1 : SS w a1 xs) (h2 : SS w a2 ys) (k1 : xs.length ≤ c1) (k2 : ys.length ≤ c2)
    (n1 : xs.length ≤ 100) (n2 : ys.length ≤ 100) (z1 : ∀ x ∈ xs, x.size ≤ 2000) (z2 : ∀ x ∈ ys, x.size ≤ 2000) (h0 : asked xs ys = 0) :
    Calls Try.prog 32 #[.slice a1 xs.length c1, .slice a2 ys.length c2, .int .i64 cx] w fun e w' => HP 0 0 (hks xs ys cx (changes xs ys)) w e w' := by
  obtain ⟨i1, hi', hy0, hy1, hy2⟩ := info_parts infoHunk
  have hA := fun w h1 h2 => implChangesOf a1 a2 c1 c2 xs ys w h1 h2 (by omega) (by omega)
  rw [h0, chL_ok h0] at hA
  have hcw := changes_cw xs ys
  have hcl := changes_length xs ys n1
  obtain ⟨L, hL⟩ : ∃ L, changes xs ys = L := ⟨_, rfl⟩
  rw [hL] at hA hcw hcl ⊢
  clear h0 hL
  obtain ⟨W1, hW1⟩ : ∃ W1, w.alloc (.cells #[.int .i64 0, .int .i64 0, .slice none 0 0] 57) = W1 := ⟨_, rfl⟩
  have b1 : Below w.heap.size w W1 := by rw [← hW1]; exact allocBelow _ _
  have zW : w.heap.size < W1.heap.size := by rw [← hW1]; simp
  have r1 : Rf W1 w.heap.size [.int .i64 0, .int .i64 0, .slice none 0 0] := by rw [← hW1]; exact Rf.new _ _ _
  go_enter Try.func32, Try.ntmps32
  go_wp2_with fail
  refine (hA _ (h1.below b1) (h2.below b1)).mono ?_; rintro e w1 ⟨v, rfl, hv, b2⟩
  obtain ⟨va, vc, rfl, hcb⟩ := CB.of hv
  obtain ⟨W2, hW2⟩ : ∃ W, w1.alloc (.cells #[.int .i64 0, .slice va L.length vc] 47) = W := ⟨_, rfl⟩
  have b3 : Below w1.heap.size w1 W2 := by rw [← hW2]; exact allocBelow _ _
  have R2 : Rs W2 w1.heap.size [.int .i64 0, .slice va L.length vc] := by rw [← hW2]; exact Rs.new _ _ _
  have z2' : w1.heap.size < W2.heap.size := by rw [← hW2]; simp
  have hlc : L.length ≤ vc := by
    rcases hv.2 with ⟨e, e0⟩ | ⟨g, cap, cur, e, _, _, hn, _⟩
    · simp only [Value.slice.injEq] at e; omega
    · simp only [Value.slice.injEq] at e; omega
  have A1 : SSB w.heap.size W2 a1 xs := ((h1.toB.below b1).below b2).below b3
  have A2 : SSB w.heap.size W2 a2 ys := ((h2.toB.below b1).below b2).below b3
  have A3 : CB W2.heap.size W2 va L := (hcb.below b3).mono (by omega)
  have r2 := (r1.below zW b2).below (by have := b2.size; omega) b3
  have zz2 := b2.size
  have BB := (b1.trans (b2.mono b1.size)).trans (b3.mono (by omega))
  have m0 := R2 0 _ rfl
  have m1 := R2 1 _ rfl
  have q1 : ¬ cx < 0 := by omega
  have q2 : ¬ 5 < cx := by omega
  clear h1 h2 hA r1 b1 b2 b3 hW1 hcb hv
  go_wp2
  have zw2 : w.heap.size < W2.heap.size := by omega
  clear m0 m1 hW2 R2
  go_loopw [8, 9] (fun vh vcs wr => ∃ (i : Nat) (sl : Nat → Value) (dn : List Hk) (a' : Option Addr) (c' : Nat), vcs = .slice a' (L.drop i).length c' ∧ CB W2.heap.size wr a' (L.drop i) ∧ (L.drop i).length ≤ c' ∧ dn.length + (L.drop i).length ≤ 101 ∧ dn ++ hks xs ys cx (L.drop i) = hks xs ys cx L ∧ HO W2.heap.size wr vh dn sl ∧ Below W2.heap.size W2 wr) (fun _ vcs _ => lenV vcs)
  case atStart => exact ⟨0, fun _ => .slice none 0 0, [], va, vc, by simp, by simpa using A3, by simpa using hlc, by simpa using hcl, by simp, HO.nil _ _ _, Below.refl _ _⟩
  case round =>
    obtain ⟨i, sl, dn, a', c', rfl, hcb, hc', hdl, hdn, hO, hbel⟩ := hrel
    have hsz := hbel.size
    have HDN : Hid (dn ++ hks xs ys cx (L.drop i) = hks xs ys cx L) := hdn
    clear hdn
    have hcw2 := hcw.drop i
    have hdd : (L.drop i).drop (tog cx (L.drop i)) = L.drop (i + tog cx (L.drop i)) := by rw [List.drop_drop]
    have HDD : Hid ((L.drop i).drop (tog cx (L.drop i)) = L.drop (i + tog cx (L.drop i))) := hdd
    have hstep := fun h => hks_step xs ys cx (cs := L.drop i) h
    have hnil := fun h => hks_nil xs ys cx (cs := L.drop i) h
    obtain ⟨cs, hcs⟩ : ∃ cs, L.drop i = cs := ⟨_, rfl⟩
    rw [hcs] at hcb hc' hdl hcw2 HDD hstep hnil ⊢
    rw [hcs] at HDN
    clear hdd hcs
    by_cases hlt : 0 < cs.length
    · have q : (0 : Int) < (cs.length : Int) := by omega
      have htb := tog_bd cx cs hlt
      have HST : Hid (hks xs ys cx cs = hunkOf xs ys cx (cs.take (tog cx cs)) :: hks xs ys cx (cs.drop (tog cx cs))) := hstep hlt
      have hCT := changesTogether cx ⟨hc0, hc5⟩ xs.length ys.length n1 a' c' cs wr hcw2 (hcb.mono hsz) hlt (by omega)
      obtain ⟨n, hn⟩ : ∃ n, tog cx cs = n := ⟨_, rfl⟩
      rw [hn] at htb HST HDD hCT
      obtain ⟨hn1, hn2⟩ := htb
      have hnc : n ≤ c' := by omega
      clear hstep hnil hn
      go_wp2_with fail
      refine hCT.mono ?_; rintro e w3 ⟨rfl, b3⟩
      have hlt2 : (cs.take n).length = n := by rw [List.length_take]; omega
      have z3 := b3.size
      have S1 := (A1.toQ hbel (by omega)).below b3
      have S2 := (A2.toQ hbel (by omega)).below b3
      have C3 := hcb.below b3
      have hHA := hunkAround cx hc0 hc5 a1 a2 a' c1 c2 c' xs ys (cs.take n) w3 (S1.toSS (by omega)) (S2.toSS (by omega)) ((C3.take n).mono (by omega)) k1 k2 n1 n2 z1 z2 (hcw2.take n) (by omega) (by omega)
      rw [hlt2] at hHA
      have H3 := hO.below b3
      have bl3 := below_step hbel hsz b3
      clear hCT b3 hcb hbel
      go_wp2_with fail
      refine hHA.mono ?_; rintro e w4 ⟨u, rfl, hu, b4⟩
      obtain ⟨x, hx⟩ : ∃ x, hunkOf xs ys cx (cs.take n) = x := ⟨_, rfl⟩
      rw [hx] at hu HST ⊢
      obtain ⟨ua, uc, eu⟩ := shapeS hu
      subst eu
      have z4 := b4.size
      have H4 := H3.below b4
      have C4 := C3.below b4
      have bl4 := below_step bl3 (by omega) b4
      have hvl : ∀ j, u8.ownBlock = some j → j < w3.heap.size := fun j hj => (H3.row.lt j hj).2
      have hel : ∀ k, k < dn.length → ∀ j, (sl k).ownBlock = some j → j < w3.heap.size := fun k hk j hj => ((H3.each k hk).lt j hj).2
      have hub : ∀ j, (Value.slice ua x.2.2.length uc).ownBlock = some j → w3.heap.size ≤ j := fun j hj => (hu.lt j hj).1
      have hPU := fun (W5 : World) (v' : Value) o p5 g5 k5 => HO.push (w6 := W5) (v' := v') (o := o) (h := x) H4 (ownMono hu (by omega)) (fun j c1 c2 => by have := hub j c1; have := hvl j c2; omega) (fun k hk j c1 c2 => by have := hub j c1; have := hel k hk j c2; omega) p5 g5 k5
      have hrow := H4.row
      obtain ⟨ra, rc, er⟩ := shape3 hrow
      subst er
      clear hHA H3 C3 S1 S2 hO hel hub hvl hu b4
      go_wp2_with ((at_builtin; refine wpList_append_own_at _ rfl (.tmp 35) (.tmp 43) 55 rfl W2.heap.size 106 i1 (.agg #[.int .i64 0, .int .i64 0, .slice none 0 0]) 3 40 Try.underlying55 hi' hy0 hy1 hy2 rfl (by decide) _ _ _ rfl (hrow.alloc _) ⟨w4.heap.size, 0, none⟩ 1 1 [.int .i64 x.1, .int .i64 x.2.1, .slice ua x.2.2.length uc] rfl rfl (newsRow w4 #[.int .i64 x.1, .int .i64 x.2.1, .slice ua x.2.2.length uc] 106) (by simp [Value.oneCell']) (by unfold maxLen; omega) (by omega) (by simp; omega) ?_; intro v' W5 p5 g5 _ k5))
      have b5 : Below W2.heap.size w4 W5 := ((Below.refl _ _).alloc (by omega) _).grown g5 (by simp; omega) (fun j hj => (hrow.lt j hj).1)
      have C5 := (C4.bQ b5 (Nat.le_refl _)).seg n c' hc'
      have B5 := bl4.trans b5
      have HH := hPU W5 v' _ p5 g5 k5
      have H5 : Hid (HO _ _ _ _ _) := HH
      have hlen5 : (cs.drop n).length = cs.length - n := by rw [List.length_drop]
      rw [HDD.out] at C5 hlen5
      have HE : Hid ((dn ++ [x]) ++ hks xs ys cx (L.drop (i + n)) = hks xs ys cx L) := by
        show _ = _
        rw [← HDN.out, HST.out, HDD.out, List.append_assoc]; rfl
      clear hPU HH p5 g5 k5 hrow H4 C4 bl3 bl4 b5
      go_roundw
      case rel => exact ⟨i + n, _, dn ++ [x], _, c' - n, by rw [hlen5], C5, by omega, by rw [List.length_append, List.length_singleton]; omega, HE.out, H5.out, B5⟩
      case measure => simp only [lenV]; omega
    · have q : ¬ (0 : Int) < (cs.length : Int) := by omega
      have hdn : dn = hks xs ys cx L := by
        have h := HDN.out
        rw [hnil (by omega), List.append_nil] at h; exact h
      obtain ⟨ra, rc, er⟩ := shape3 hO.row
      subst er
      have r3 : Rf wr w.heap.size [.int .i64 0, .int .i64 0, .slice none 0 0] := ⟨fun k v hk => (hbel.cell (p := ⟨w.heap.size, k, none⟩) zw2).trans (r2.at_ k v hk), fun k => (hbel.frozen (p := ⟨w.heap.size, k, none⟩) zw2).trans (r2.fz k)⟩
      have HB := below_set3 (BB.trans (hbel.mono (by omega))) (Nat.le_refl w.heap.size) (.int .i64 0) (.int .i64 0) (.slice ra dn.length rc)
      have HH : Hid (HO w.heap.size (((wr.setCell ⟨w.heap.size, 0, none⟩ (.int .i64 0)).setCell ⟨w.heap.size, 1, none⟩ (.int .i64 0)).setCell ⟨w.heap.size, 2, none⟩ (.slice ra dn.length rc)) (.slice ra dn.length rc) dn sl) :=
        (hO.grown (grownSet3 wr w.heap.size _ _ _) zw2).mono (by omega)
      have e0 := r3.at_ 0 _ rfl
      have e1 := r3.at_ 1 _ rfl
      have e2 := r3.at_ 2 _ rfl
      have f0 := r3.fz 0
      have f1 := r3.fz 1
      have f2 := r3.fz 2
      have HD : Hid (dn = hks xs ys cx L) := hdn
      clear hO r3 r2 hbel hnil hstep hdn
      go_wp2
      refine bodyPost_ret (v := .agg #[.int .i64 0, .int .i64 0, .slice ra dn.length rc]) (by simp [results, Try.results32, go_sem, e0, e1, e2]) rfl ?_
      rw [← HD.out]
      exact ⟨_, sl, rfl, HH.out, HB⟩

set_option maxHeartbeats 2000000 in
theorem implHunksOf (cx : Int) (a1 a2 : Option Addr) (c1 c2 : Nat) (xs ys : List ByteArray) (w : World) (h1 : SS w a1 xs) (h2 : SS w a2 ys) (k1 : xs.length ≤ c1) (k2 : ys.length ≤ c2) (n1 : xs.length ≤ 1048576) (n2 : ys.length ≤ 1048576) :
    Calls Try.prog 32 #[.slice a1 xs.length c1, .slice a2 ys.length c2, .int .i64 cx] w fun e w' => HP (hoR xs ys cx) 0 (hoL xs ys cx) w e w' := by
  by_cases h0 : asked xs ys = 0
  · obtain ⟨hx, hy⟩ := asked_zero h0
    by_cases hc : 0 ≤ cx ∧ cx ≤ 5
    · have e1 : hoR xs ys cx = 0 := by unfold hoR; rw [if_pos h0, if_pos hc]
      have e2 : hoL xs ys cx = hks xs ys cx (changes xs ys) := if_pos ⟨h0, hc⟩
      rw [e1, e2]
      exact implHunks cx hc.1 hc.2 a1 a2 c1 c2 xs ys w h1 h2 k1 k2 (lf_zero hx).1 (lf_zero hy).1 (fun x hm => by have := totM hm; have := (lf_zero hx).2; omega) (fun x hm => by have := totM hm; have := (lf_zero hy).2; omega) h0
    · have e1 : hoR xs ys cx = 3 := by unfold hoR; rw [if_pos h0, if_neg hc]
      have e2 : hoL xs ys cx = [] := if_neg (fun h => hc h.2)
      rw [e1, e2]
      have hA := fun w h1 h2 => implChangesOf a1 a2 c1 c2 xs ys w h1 h2 n1 n2
      rw [h0] at hA
      obtain ⟨L, hL⟩ : ∃ L, chL xs ys = L := ⟨_, rfl⟩
      rw [hL] at hA
      clear hL e1 e2
      obtain ⟨W1, hW1⟩ : ∃ W1, w.alloc (.cells #[.int .i64 0, .int .i64 0, .slice none 0 0] 57) = W1 := ⟨_, rfl⟩
      have b1 : Below w.heap.size w W1 := by rw [← hW1]; exact allocBelow _ _
      have zW : w.heap.size < W1.heap.size := by rw [← hW1]; simp
      have r1 : Rf W1 w.heap.size [.int .i64 0, .int .i64 0, .slice none 0 0] := by rw [← hW1]; exact Rf.new _ _ _
      go_enter Try.func32, Try.ntmps32
      go_wp2_with fail
      refine (hA _ (h1.below b1) (h2.below b1)).mono ?_; rintro e w1 ⟨v, rfl, hv, b2⟩
      obtain ⟨va, vc, rfl, hcb⟩ := CB.of hv
      obtain ⟨W2, hW2⟩ : ∃ W, w1.alloc (.cells #[.int .i64 0, .slice va L.length vc] 47) = W := ⟨_, rfl⟩
      have b3 : Below w1.heap.size w1 W2 := by rw [← hW2]; exact allocBelow _ _
      have R2 : Rs W2 w1.heap.size [.int .i64 0, .slice va L.length vc] := by rw [← hW2]; exact Rs.new _ _ _
      have r2 := (r1.below zW b2).below (by have := b2.size; omega) b3
      have zz2 := b2.size
      have BB := (b1.trans (b2.mono b1.size)).trans (b3.mono (by omega))
      have HB := below_set3 BB (Nat.le_refl w.heap.size) (.int .i64 3) (.int .i64 0) (.slice none 0 0)
      have m0 := R2 0 _ rfl
      have e0 := r2.at_ 0 _ rfl
      have e1 := r2.at_ 1 _ rfl
      have e2 := r2.at_ 2 _ rfl
      have f0 := r2.fz 0
      have f1 := r2.fz 1
      have f2 := r2.fz 2
      clear h1 h2 hA r1 b1 b2 b3 hW1 hcb hv BB r2 R2
      by_cases q1 : cx < 0
      · clear hc
        go_wp2
        refine bodyPost_ret (v := .agg #[.int .i64 3, .int .i64 0, .slice none 0 0]) (by simp [results, Try.results32, go_sem, e0, e1, e2]) rfl ?_
        exact ⟨_, fun _ => .slice none 0 0, rfl, HO.nil _ _ _, HB⟩
      · have q2 : 5 < cx := by omega
        clear hc
        go_wp2
        refine bodyPost_ret (v := .agg #[.int .i64 3, .int .i64 0, .slice none 0 0]) (by simp [results, Try.results32, go_sem, e0, e1, e2]) rfl ?_
        exact ⟨_, fun _ => .slice none 0 0, rfl, HO.nil _ _ _, HB⟩
  · have e1 : hoR xs ys cx = asked xs ys := if_neg h0
    have e2 : hoL xs ys cx = [] := if_neg (fun h => h0 h.1)
    rw [e1, e2]
    have hA := fun w h1 h2 => implChangesOf a1 a2 c1 c2 xs ys w h1 h2 n1 n2
    have hb := ne_beq h0
    obtain ⟨r, hr⟩ : ∃ r, asked xs ys = r := ⟨_, rfl⟩
    obtain ⟨L, hL⟩ : ∃ L, chL xs ys = L := ⟨_, rfl⟩
    rw [hr, hL] at hA
    rw [hr] at hb ⊢
    clear hL e1 e2 hr h0
    obtain ⟨W1, hW1⟩ : ∃ W1, w.alloc (.cells #[.int .i64 0, .int .i64 0, .slice none 0 0] 57) = W1 := ⟨_, rfl⟩
    have b1 : Below w.heap.size w W1 := by rw [← hW1]; exact allocBelow _ _
    have zW : w.heap.size < W1.heap.size := by rw [← hW1]; simp
    have r1 : Rf W1 w.heap.size [.int .i64 0, .int .i64 0, .slice none 0 0] := by rw [← hW1]; exact Rf.new _ _ _
    go_enter Try.func32, Try.ntmps32
    go_wp2_with fail
    refine (hA _ (h1.below b1) (h2.below b1)).mono ?_; rintro e w1 ⟨v, rfl, hv, b2⟩
    obtain ⟨va, vc, rfl, hcb⟩ := CB.of hv
    obtain ⟨W2, hW2⟩ : ∃ W, w1.alloc (.cells #[.int .i64 r, .slice va L.length vc] 47) = W := ⟨_, rfl⟩
    have b3 : Below w1.heap.size w1 W2 := by rw [← hW2]; exact allocBelow _ _
    have R2 : Rs W2 w1.heap.size [.int .i64 r, .slice va L.length vc] := by rw [← hW2]; exact Rs.new _ _ _
    have r2 := (r1.below zW b2).below (by have := b2.size; omega) b3
    have zz2 := b2.size
    have BB := (b1.trans (b2.mono b1.size)).trans (b3.mono (by omega))
    have HB := below_set3 BB (Nat.le_refl w.heap.size) (.int .i64 r) (.int .i64 0) (.slice none 0 0)
    have m0 := R2 0 _ rfl
    have e0 := r2.at_ 0 _ rfl
    have e1 := r2.at_ 1 _ rfl
    have e2 := r2.at_ 2 _ rfl
    have f0 := r2.fz 0
    have f1 := r2.fz 1
    have f2 := r2.fz 2
    clear h1 h2 hA r1 b1 b2 b3 hW1 hcb hv BB r2 R2
    go_wp2
    refine bodyPost_ret (v := .agg #[.int .i64 r, .int .i64 0, .slice none 0 0]) (by simp [results, Try.results32, go_sem, e0, e1, e2]) rfl ?_
    exact ⟨_, fun _ => .slice none 0 0, rfl, HO.nil _ _ _, HB⟩
end Go.Proofs.Ytepbkaidlffaiaa
