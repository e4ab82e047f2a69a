/- Plain mathematics of the text of a clash. No statement is proved here. -/
import Derived.Test.YtcfnkndbhpdfnaaGreatDoorShelfCQ
import Derived.Test.YtcfnkndbhpdfnaaGreatDoorSameCQ
import Derived.Test.YtcfnkndbhpdfnaaGreatDoorIterQ
namespace Go.Proofs.YtcfnkndbhpdfnaaGreatDoor
open Go.RowKit
def endsL (l : List UInt8) : Bool := decide (l.getLast? = some 10)
def closeL (l : List UInt8) : List UInt8 := if l = [] then l else if endsL l = true then l else l ++ [10]
def endL (s : ByteArray) : List UInt8 := if endsL s.data.toList = true then s.data.toList else s.data.toList ++ [10]
def endAll (ss : List ByteArray) : List UInt8 := ss.flatMap endL
theorem endAll_take (ss : List ByteArray) (k : Nat) (h : k < ss.length) : endAll (ss.take (k + 1)) = endAll (ss.take k) ++ endL (ss.getD k ByteArray.empty) := by
 unfold endAll
 rw [List.take_succ_eq_append_getElem h, List.flatMap_append, getD_at ss k h]
 simp
theorem endL_le (s : ByteArray) : (endL s).length <= s.size + 1 := by
 unfold endL
 split <;> simp
theorem endAll_le (ss : List ByteArray) : ((endAll ss).length : Int) <= tot ss + ss.length := by
 induction ss with
 | nil => simp [endAll, tot]
 | cons s t ih =>
  have h1 := endL_le s
  have e1 : endAll (s :: t) = endL s ++ endAll t := by simp [endAll]
  have e2 : tot (s :: t) = (s.size : Int) + tot t := by simp [tot]
  rw [e1, e2, List.length_append, List.length_cons]
  omega
def putP (l : List UInt8) (ss : List ByteArray) : List UInt8 := ss.foldl (fun a s => closeL a ++ s.data.toList) l
theorem putP_take (l : List UInt8) (ss : List ByteArray) (k : Nat) (h : k < ss.length) : putP l (ss.take (k + 1)) = closeL (putP l (ss.take k)) ++ (ss.getD k ByteArray.empty).data.toList := by
 unfold putP
 rw [List.take_succ_eq_append_getElem h, List.foldl_append, getD_at ss k h]
 rfl
theorem closeL_le (l : List UInt8) : (closeL l).length <= l.length + 1 := by
 unfold closeL
 split
 ·omega
 ·split <;> simp
theorem putP_le (l : List UInt8) (ss : List ByteArray) : ((putP l ss).length : Int) <= l.length + tot ss + ss.length := by
 induction ss generalizing l with
 | nil => simp [putP, tot]
 | cons s t ih =>
  have e1 : putP l (s :: t) = putP (closeL l ++ s.data.toList) t := rfl
  have e2 : tot (s :: t) = (s.size : Int) + tot t := by simp [tot]
  have h1 := closeL_le l
  have h2 := ih (closeL l ++ s.data.toList)
  have h3 : s.data.toList.length = s.size := by simp
  rw [List.length_append] at h2
  rw [e1, e2, List.length_cons]
  omega
theorem endsL_app (x l : List UInt8) (h : l ≠ []) : endsL (x ++ l) = endsL l := by
 unfold endsL
 rw [List.getLast?_append]
 cases e : l.getLast? with
 | none => exact absurd (List.getLast?_eq_none_iff.1 e) h
 | some v => rfl
theorem closeL_app (x : List UInt8) (s : ByteArray) (h : s.data.toList ≠ []) : closeL (x ++ s.data.toList) = x ++ endL s := by
 unfold closeL endL
 rw [if_neg (by simp [h]), endsL_app x _ h]
 split
 ·rfl
 ·rw [List.append_assoc]
theorem closeL_hdr (x l : List UInt8) (h : l ≠ []) (e : endsL l = true) : closeL (x ++ l) = x ++ l := by
 unfold closeL
 rw [if_neg (by simp [h]), endsL_app x _ h, if_pos e]
theorem putP_close (ss : List ByteArray) (l : List UInt8) (h : ∀ s ∈ ss, s.data.toList ≠ []) : closeL (putP l ss) = closeL l ++ endAll ss := by
 induction ss generalizing l with
 | nil => simp [putP, endAll]
 | cons s t ih =>
  have e1 : putP l (s :: t) = putP (closeL l ++ s.data.toList) t := rfl
  have e2 : endAll (s :: t) = endL s ++ endAll t := by simp [endAll]
  rw [e1, ih _ (fun x hx => h x (by simp [hx])), closeL_app _ _ (h s (by simp)), e2, List.append_assoc]
def wh (ss : List ByteArray) : Bool := ss.all fun s => okLine s.data.toList true
theorem wh_bad {ss : List ByteArray} {k : Nat} (hk : k < ss.length) (h : okLine (ss.getD k ByteArray.empty).data.toList true = false) : wh ss = false := by
 unfold wh
 cases e : ss.all fun s => okLine s.data.toList true with
 | false => rfl
 | true =>
  rw [getD_at ss k hk] at h
  have := List.all_eq_true.1 e _ (List.getElem_mem hk)
  rw [h] at this; cases this
theorem wh_take {ss : List ByteArray} {k : Nat} (hk : k < ss.length) (h : wh (ss.take k) = true) (e : okLine (ss.getD k ByteArray.empty).data.toList true = true) : wh (ss.take (k + 1)) = true := by
 unfold wh at *
 rw [List.take_succ_eq_append_getElem hk, List.all_append, h]
 rw [getD_at ss k hk] at e
 simp [e]
theorem wh_pos {ss : List ByteArray} (h : wh ss = true) : ∀ s ∈ ss, s.data.toList ≠ [] := fun s hs e => by
 have := List.all_eq_true.1 h s hs
 unfold okLine at this
 rw [if_pos e] at this
 cases this
def h1L : List UInt8 := [60, 60, 60, 60, 60, 60, 60, 10]
def h2L : List UInt8 := [124, 124, 124, 124, 124, 124, 124, 10]
def h3L : List UInt8 := [61, 61, 61, 61, 61, 61, 61, 10]
def h4L : List UInt8 := [62, 62, 62, 62, 62, 62, 62, 10]
def clashL (b o t : List ByteArray) : List UInt8 := h1L ++ endAll o ++ h2L ++ endAll b ++ h3L ++ endAll t ++ h4L
theorem clash_made {b o t : List ByteArray} (hb : wh b = true) (ho : wh o = true) (ht : wh t = true) :
  closeL (putP (closeL (putP (closeL (putP (closeL [] ++ h1L) o) ++ h2L) b) ++ h3L) t) ++ h4L = clashL b o t := by
 have e0 : closeL ([] : List UInt8) = [] := rfl
 rw [e0, List.nil_append, putP_close _ _ (wh_pos ht), closeL_hdr _ _ (by decide) (by decide), putP_close _ _ (wh_pos hb), closeL_hdr _ _ (by decide) (by decide), putP_close _ _ (wh_pos ho)]
 have e1 : closeL h1L = h1L := by decide
 rw [e1]
 rfl
end Go.Proofs.YtcfnkndbhpdfnaaGreatDoor
namespace Go.Proofs.YtcfnkndbhpdfnaaGreatDoor
open Go.ChangeShapes Go.WideShapes Go.ChangeAt Go.RowKit
theorem last_split {l : List UInt8} (h : l ≠ []) : ∃ t x, l = t ++ [x] := ⟨l.dropLast, l.getLast h, (List.dropLast_concat_getLast h).symm⟩
theorem dataPos {s : ByteArray} (hp : 0 < s.size) : s.data.toList ≠ [] := fun h => by
 have h1 : s.data.toList.length = 0 := by rw [h]; rfl
 have h2 : s.data.toList.length = s.size := by simp
 omega
theorem endsL_snoc (t : List UInt8) (x : UInt8) : endsL (t ++ [x]) = decide (x = 10) := by
 unfold endsL
 rw [List.getLast?_append]
 simp
theorem lastByte (s : ByteArray) (hp : 0 < s.size) : ((s.extract (s.size - 1) s.size).toList == [10]) = endsL s.data.toList := by
 have e : (s.extract (s.size - 1) s.size).toList = s.data.toList.drop (s.data.toList.length - 1) := by
  rw [ByteArray.toList_eq, ByteArray.data_extract, Array.toList_extract]
  simp only [List.extract]
  rw [List.take_of_length_le (by simp)]
  simp
 rw [e]
 obtain ⟨t, x, hx⟩ := last_split (dataPos hp)
 rw [hx, endsL_snoc, show (t ++ [x]).drop ((t ++ [x]).length - 1) = [x] by simp]
 by_cases h : x = 10
 ·subst h; rfl
 ·rw [decide_eq_false h]
  simp [h]
set_option maxHeartbeats 1000000 in
theorem hasSuffix0 (s : ByteArray) (w : World) (hp : 0 < s.size) (hs : s.size <= 9223372036854775807) :
  Calls Tryz.prog 193 #[.string s, .string ⟨#[10]⟩] w fun e w' => e = .returned (.bool (endsL s.data.toList)) /\ w' = w := by
 have hE := lastByte s hp
 have q1 : (1 : Int) <= (s.size : Int) := by omega
 go_enter Tryz.func193, Tryz.ntmps193
 go_wp2
 go_ret
 exact ⟨rfl, rfl⟩
theorem hasSuffix (s : ByteArray) (w : World) (hp : 0 < s.size) (hs : s.size <= 9223372036854775807) :
  Calls Tryz.prog 180 #[.string s, .string ⟨#[10]⟩] w fun e w' => e = .returned (.bool (endsL s.data.toList)) /\ w' = w := by
 go_enter Tryz.func180, Tryz.ntmps180
 go_wp2_with fail
 refine (hasSuffix0 s _ hp hs).mono ?_; rintro e w ⟨rfl, rfl⟩
 go_wp2
 go_ret
 exact ⟨rfl, rfl⟩
theorem bytesOf (l : List UInt8) (s : ByteArray) : (⟨l.toArray⟩ : ByteArray) ++ s = ⟨(l ++ s.data.toList).toArray⟩ := by
 apply WideShapes.bytes_inj
 rw [ByteArray.data_append, Array.toList_append]
theorem lastIdx (s : ByteArray) (hp : 0 < s.size) : (((s[s.size - 1]'(by omega)).toNat : Int) != 10) = !endsL s.data.toList := by
 obtain ⟨t, x, hx⟩ := last_split (dataPos hp)
 have h1 : s[s.size - 1]'(by omega) = x := by
  have h2 : s.data.toList.length = s.size := by simp
  have h3 : s.data.toList[s.size - 1]? = some x := by
   rw [<- h2, hx]; simp
  have h4 : s.data.toList[s.size - 1]? = some (s[s.size - 1]'(by omega)) := by
   rw [List.getElem?_eq_getElem (by omega)]; rfl
  rw [h3] at h4
  exact (Option.some.inj h4).symm
 rw [h1, hx, endsL_snoc]
 by_cases h : x = 10
 ·subst h; rfl
 ·rw [decide_eq_false h]
  have : ¬ (x.toNat : Int) = 10 := fun e => h (by
   apply UInt8.toNat_inj.1
   have : x.toNat = 10 := by omega
   rw [this]; rfl)
  simp [this]
set_option maxRecDepth 20000 in
set_option maxHeartbeats 2000000 in
theorem l4Ended (a : Option Addr) (c : Nat) (ss : List ByteArray) (w : World) (hs : SS w a ss) (hn : ss.length <= 1048576) (ht : tot ss <= 1048576) (hw : wh ss = true) :
  Calls Tryz.prog 146 #[.slice a ss.length c] w fun e w' => e = .returned (.string ⟨(endAll ss).toArray⟩) /\ ∃ n, w' = w.drewN n := by
 go_enter Tryz.func146, Tryz.ntmps146
 go_wp2
 go_loopw [3, 4] (fun t i wr => ∃ k : Nat, k <= ss.length /\ i = .int .i64 k /\ t = .string ⟨(endAll (ss.take k)).toArray⟩ /\ ∃ n, wr = w.drewN n) (fun _ i _ => ss.length - (intOf i).toNat)
 case atStart => exact ⟨0, Nat.zero_le _, rfl, rfl, 0, rfl⟩
 case round =>
  obtain ⟨k, hk, rfl, rfl, n, hwr⟩ := hrel
  by_cases hlt : k < ss.length
  ·have q : (k : Int) < (ss.length : Int) := by omega
   obtain ⟨b, off, rfl, hb, hc0⟩ := hs.2 k hlt
   have hc : wr.cell? ⟨b, off + k, none⟩ = some (.string (ss.getD k ByteArray.empty)) := by rw [hwr]; exact hc0
   have HW : Hid (wr = w.drewN n) := hwr
   clear hwr hc0
   have hsz := hs.1 k hlt
   have hT := endAll_take ss k hlt
   have hle := endAll_le (ss.take k)
   have htt := tot_take_le ss k
   have hts := tot_take ss k hlt
   have htk := tot_take_le ss (k + 1)
   have hlk : ((ss.take k).length : Int) <= 1048576 := by rw [List.length_take]; omega
   have hpos : (ss.getD k ByteArray.empty).data.toList ≠ [] := wh_pos hw _ (by rw [getD_at ss k hlt]; exact List.getElem_mem hlt)
   obtain ⟨s, hse⟩ : ∃ s, ss.getD k ByteArray.empty = s := ⟨_, rfl⟩
   rw [hse] at hc hsz hT hpos hts
   have hp : 0 < s.size := by
    have h2 : s.data.toList.length = s.size := by simp
    cases h : s.data.toList with
    | nil => exact absurd h hpos
    | cons => rw [h] at h2; simp at h2; omega
   have hL := lastIdx s hp
   have h1 := bytesOf (endAll (ss.take k)) s
   obtain ⟨X, hX⟩ : ∃ X, endAll (ss.take k) = X := ⟨_, rfl⟩
   rw [hX] at hT hle h1 ⊢
   have hXl : (⟨X.toArray⟩ : ByteArray).size + s.size + 1 <= 4194304 := by
    have : (⟨X.toArray⟩ : ByteArray).size = X.length := by simp [ByteArray.size]
    have := tot_nonneg (ss.take k)
    omega
   have hX3 : X.length + s.size + 1 <= 9223372036854775807 := by
    have : (⟨X.toArray⟩ : ByteArray).size = X.length := by simp [ByteArray.size]
    omega
   have h2 := bytesOf (X ++ s.data.toList) ⟨#[10]⟩
   have hq1 : (1 : Int) <= (s.size : Int) := by omega
   have hI0 : (0 : Int) <= (s.size : Int) - 1 := by omega
   have hI1 : (s.size : Int) - 1 < (s.size : Int) := by omega
   unfold endL at hT
   clear hse hX hpos hle htt htk hlk hts
   cases hen : endsL s.data.toList with
   | true =>
    rw [hen] at hL hT
    replace hL : (((s[s.size - 1]'(by omega)).toNat : Int) != 10) = false := hL
    have HT : Hid (endAll (ss.take (k + 1)) = X ++ s.data.toList) := by show _ = _; rw [hT, if_pos rfl]
    clear hT hen
    go_wp2
    go_quiet (fail)
    go_wp2
    go_roundw
    case rel => exact ⟨k + 1, by omega, by go_num, by rw [HT.out], n + nq, by rw [HW.out, World.drewN_drewN]⟩
    case measure => first | (simp [intOf]; omega) | simp [intOf]
   | false =>
    rw [hen] at hL hT
    replace hL : (((s[s.size - 1]'(by omega)).toNat : Int) != 10) = true := hL
    have HT : Hid (endAll (ss.take (k + 1)) = X ++ (s.data.toList ++ [10])) := by show _ = _; rw [hT, if_neg (by decide)]
    clear hT hen
    go_wp2
    go_quiet (fail)
    go_wp2
    go_roundw
    case rel => exact ⟨k + 1, by omega, by go_num, by rw [HT.out]; try rw [List.append_assoc], n + nq, by rw [HW.out, World.drewN_drewN]⟩
    case measure => first | (simp [intOf]; omega) | simp [intOf]
  ·have q : ¬ (k : Int) < (ss.length : Int) := by omega
   have e : ss.take k = ss := List.take_of_length_le (by omega)
   rw [e]
   clear e
   go_wp2
   go_ret
   exact ⟨rfl, n, rfl⟩
set_option maxRecDepth 20000 in
set_option maxHeartbeats 2000000 in
theorem hasWholeLines (x0 : Int) (a1 a2 a3 : Option Addr) (c1 c2 c3 : Nat) (x1 x2 x3 : List ByteArray) (w : World) (h1 : SS w a1 x1) (h2 : SS w a2 x2) (h3 : SS w a3 x3) (n1 : x1.length <= 1048576) (n2 : x2.length <= 1048576) (n3 : x3.length <= 1048576) :
  Calls Tryz.prog 184 #[.agg #[.int .i64 x0, .slice a1 x1.length c1, .slice a2 x2.length c2, .slice a3 x3.length c3]] w fun e w' => e = .returned (.bool (wh x1 && (wh x2 && wh x3))) /\ Below w.heap.size w w' := by
 have bW := allocBelow w (.cells #[.int .i64 x0, .slice a1 x1.length c1, .slice a2 x2.length c2, .slice a3 x3.length c3] 162)
 go_enter Tryz.func184, Tryz.ntmps184
 go_wp2_with fail
 refine (listsOf _ _ _ _ _ _ _ _ _ _ _).mono ?_; rintro e w1 ⟨rfl, b1⟩
 have B1 := below_step bW (by simp) b1
 have S1 := h1.below B1
 have S2 := h2.below B1
 have S3 := h3.below B1
 clear b1 bW h1 h2 h3
 go_wp2
 go_loopw [9] (fun i wr => ∃ k : Nat, k <= 3 /\ i = .int .i64 k /\ Hid (∀ j, j < k -> wh (sd j (x0, x1, x2, x3)) = true) /\ wr = w1) (fun i _ => 3 - (intOf i).toNat)
 case atStart => exact ⟨0, by omega, rfl, fun j hj => absurd hj (Nat.not_lt_zero _), rfl⟩
 case round =>
  obtain ⟨k, hk, rfl, hA, hwr⟩ := hrel
  subst hwr
  by_cases hlt : k < 3
  ·have q3 : (k : Int) < 3 := by omega
   obtain ⟨ai, ci, ix, si, ni⟩ : ∃ ai ci, (∀ w, (Instr.index 194 (.agg #[.slice a1 x1.length c1, .slice a2 x2.length c2, .slice a3 x3.length c3]) (.int .i64 (k : Int))).run Tryz.prog w = .ok (.slice ai (sd k (x0, x1, x2, x3)).length ci) w) /\ SS wr ai (sd k (x0, x1, x2, x3)) /\ (sd k (x0, x1, x2, x3)).length <= 1048576 := by
    have h3 : k = 0 \/ k = 1 \/ k = 2 := by omega
    rcases h3 with rfl | rfl | rfl
    ·exact ⟨a1, c1, fun _ => by kernel_rfl, S1, n1⟩
    ·exact ⟨a2, c2, fun _ => by kernel_rfl, S2, n2⟩
    ·exact ⟨a3, c3, fun _ => by kernel_rfl, S3, n3⟩
   have hNo : wh (sd k (x0, x1, x2, x3)) = false -> Hid ((wh x1 && (wh x2 && wh x3)) = false) := fun h => by
    show _ = _
    have h3 : k = 0 \/ k = 1 \/ k = 2 := by omega
    rcases h3 with rfl | rfl | rfl
    ·rw [show wh x1 = false from h]; rfl
    ·rw [show wh x2 = false from h]; cases wh x1 <;> rfl
    ·rw [show wh x3 = false from h]; cases wh x1 <;> cases wh x2 <;> rfl
   have hYes : wh (sd k (x0, x1, x2, x3)) = true -> Hid (∀ j, j < k + 1 -> wh (sd j (x0, x1, x2, x3)) = true) := fun h => by
    show ∀ j, _
    intro j hj
    by_cases e : j = k
    ·rw [e]; exact h
    ·exact hA.out j (by omega)
   obtain ⟨S, hS⟩ : ∃ S, sd k (x0, x1, x2, x3) = S := ⟨_, rfl⟩
   rw [hS] at ix si ni hNo hYes
   clear hS hA
   go_wp2
   obtain ⟨wq, hwq⟩ : ∃ W, W = wr := ⟨_, rfl⟩
   subst hwq
   go_loopw [14] (fun i wx => ∃ m : Nat, m <= S.length /\ i = .int .i64 m /\ Hid (wh (S.take m) = true) /\ wx = wq) (fun i _ => S.length - (intOf i).toNat)
   case atStart => exact ⟨0, Nat.zero_le _, rfl, rfl, rfl⟩
   case round =>
    obtain ⟨m, hm, rfl, hW, hwx⟩ := hrel
    subst hwx
    by_cases hmt : m < S.length
    ·have q : (m : Int) < (S.length : Int) := by omega
     obtain ⟨b, off, rfl, hb, hc⟩ := si.2 m hmt
     have hsz := si.1 m hmt
     have hbad := fun h => wh_bad (ss := S) hmt h
     have hgo := fun h => wh_take (ss := S) hmt hW.out h
     obtain ⟨s, hse⟩ : ∃ s, S.getD m ByteArray.empty = s := ⟨_, rfl⟩
     rw [hse] at hc hsz hbad hgo
     have hIs := fun w => isLine s true w hsz
     clear hse
     cases ho : okLine s.data.toList true with
     | false =>
      have hC := hNo (hbad ho)
      rw [ho] at hIs
      clear hbad hgo ho hNo hYes
      go_wp2_with fail
      refine (hIs _).mono ?_; rintro e w' ⟨rfl, rfl⟩
      go_wp2
      go_ret
      exact ⟨ret_bool hC.out.symm, B1⟩
     | true =>
      have hC : Hid (wh (S.take (m + 1)) = true) := hgo ho
      rw [ho] at hIs
      clear hbad hgo ho
      go_wp2_with fail
      refine (hIs _).mono ?_; rintro e w' ⟨rfl, rfl⟩
      go_wp2
      go_roundw
      case rel => exact ⟨m + 1, by omega, by go_num, hC, by first | rfl | trivial⟩
      case measure => first | (simp [intOf]; omega) | simp [intOf]
    ·have q : ¬ (m : Int) < (S.length : Int) := by omega
     have hC := hYes (by have := hW.out; rw [List.take_of_length_le (by omega)] at this; exact this)
     clear hNo hYes
     go_wp2
     go_roundw
     case rel => exact ⟨k + 1, by omega, by go_num, hC, by first | rfl | trivial⟩
     case measure => first | (simp [intOf]; omega) | simp [intOf]
  ·have q3 : ¬ (k : Int) < 3 := by omega
   have hC : Hid ((wh x1 && (wh x2 && wh x3)) = true) := by
    show _ = _
    rw [show wh x1 = true from hA.out 0 (by omega), show wh x2 = true from hA.out 1 (by omega), show wh x3 = true from hA.out 2 (by omega)]; rfl
   go_wp2
   go_ret
   exact ⟨ret_bool hC.out.symm, B1⟩
end Go.Proofs.YtcfnkndbhpdfnaaGreatDoor
namespace Go.Proofs.YtcfnkndbhpdfnaaGreatDoor
open Go.ChangeShapes Go.WideShapes Go.ChangeAt Go.RowKit
theorem cellsApp (l : List UInt8) (s : ByteArray) : Lib.byteCells l ++ Lib.strCells s = Lib.byteCells (l ++ s.data.toList) := by
 unfold Lib.byteCells Lib.strCells
 rw [List.map_append]
theorem cellsLF (l : List UInt8) : Lib.byteCells l ++ [.int .u8 10] = Lib.byteCells (l ++ [10]) := by
 unfold Lib.byteCells
 rw [List.map_append]
 rfl
def BF (B b : Nat) (l : List UInt8) (w : World) : Prop := Lib.IsBuilderF 203 5 B b (Lib.byteCells l) w
set_option maxRecDepth 20000 in
set_option maxHeartbeats 2000000 in
theorem writeParts (B b : Nat) (l : List UInt8) (a : Option Addr) (c : Nat) (ss : List ByteArray) (w : World) (h : BF B b l w) (hs : SSB B w a ss) (hB : B <= w.heap.size) (hn : ss.length <= 1048576) (hl : (l.length : Int) + tot ss + ss.length <= 1000000000) :
  Calls Tryz.prog 159 #[.pointer (some ⟨b, 0, none⟩), .slice a ss.length c] w fun e w' => e = .returned (.tuple #[]) /\ (BF B b (putP l ss) w' /\ Below B w w') := by
 go_enter Tryz.func159, Tryz.ntmps159
 go_wp2
 go_loopw [8] (fun i wr => ∃ k : Nat, k <= ss.length /\ i = .int .i64 k /\ BF B b (putP l (ss.take k)) wr /\ Below B w wr) (fun i _ => ss.length - (intOf i).toNat)
 case atStart => exact ⟨0, Nat.zero_le _, rfl, h, Below.refl _ _⟩
 case round =>
  obtain ⟨k, hk, rfl, hbf, hbel⟩ := hrel
  have hsz := hbel.size
  by_cases hlt : k < ss.length
  ·have q : (k : Int) < (ss.length : Int) := by omega
   obtain ⟨b', off, rfl, hb, hc0⟩ := hs.2 k hlt
   have hc := (hbel.cell (p := ⟨b', off + k, none⟩) hb).trans hc0
   have hT := putP_take l ss k hlt
   have hle := putP_le l (ss.take k)
   have htt := tot_take_le ss (k + 1)
   have hts := tot_take ss k hlt
   have hlk : ((ss.take k).length : Int) <= ss.length := by rw [List.length_take]; omega
   obtain ⟨s, hse⟩ : ∃ s, ss.getD k ByteArray.empty = s := ⟨_, rfl⟩
   rw [hse] at hc hT hts
   obtain ⟨X, hX⟩ : ∃ X, putP l (ss.take k) = X := ⟨_, rfl⟩
   rw [hX] at hT hle hbf
   have hXl : X.length + s.size + 1 <= 1000000001 := by omega
   have hLen := fun W (p : BF B b X W) => bLen B b (Lib.byteCells X) W p
   rw [Lib.byteCells_length] at hLen
   clear hse hX hle htt hts hlk hc0
   by_cases h0 : X = []
   ·subst h0
    have HT : Hid (putP l (ss.take (k + 1)) = [] ++ s.data.toList) := by show _ = _; rw [hT]; rfl
    clear hT
    have hLen0 : ∀ W, BF B b [] W -> Calls Tryz.prog 179 #[.pointer (some ⟨b, 0, none⟩)] W fun e w' => e = .returned (.int .i64 0) /\ w' = W := fun W p => hLen W p
    clear hLen
    go_wp2_with fail
    refine (hLen0 _ hbf).mono ?_; rintro e wr ⟨rfl, rfl⟩
    go_wp2_with fail
    refine (writeStringF B b _ s wr hbf (by rw [Lib.byteCells_length]; simp; omega) (by omega)).mono ?_; rintro e w2 ⟨rfl, h2, b2⟩
    rw [cellsApp, <- HT.out] at h2
    have B2 := hbel.trans b2
    clear hbf b2 hLen0
    go_wp2
    go_roundw
    case rel => exact ⟨k + 1, by omega, by go_num, .inr h2, B2⟩
    case measure => first | (simp [intOf]; omega) | simp [intOf]
   ·have hpos : 0 < X.length := by cases X with | nil => exact absurd rfl h0 | cons => simp
    have hq : (0 : Int) < (X.length : Int) := by omega
    have hXs : (⟨X.toArray⟩ : ByteArray).size = X.length := by simp [ByteArray.size]
    have hHS := fun W => hasSuffix ⟨X.toArray⟩ W (by omega) (by omega)
    have hXd : (⟨X.toArray⟩ : ByteArray).data.toList = X := by simp
    rw [hXd] at hHS
    have hq2 : ((X.length : Int) > 0) := hq
    clear hXs hXd
    go_wp2_with fail
    refine (hLen _ hbf).mono ?_; rintro e wr ⟨rfl, rfl⟩
    obtain ⟨N, hN⟩ : ∃ N : Int, (X.length : Int) = N := ⟨_, rfl⟩
    rw [hN] at hq ⊢
    clear hN hq2 hLen
    go_wp2_with fail
    refine (bString B b X wr hbf (by omega)).mono ?_; rintro e w2 ⟨rfl, h2, b2⟩
    have B2 := hbel.trans b2
    have z2 := b2.size
    clear hbf b2 hbel
    cases he : endsL X with
    | true =>
     rw [he] at hHS
     have HT : Hid (putP l (ss.take (k + 1)) = X ++ s.data.toList) := by
      show _ = _
      rw [hT]; unfold closeL; rw [if_neg h0, if_pos he]
     clear hT he h0
     go_wp2_with fail
     refine (hHS _).mono ?_; rintro e w2 ⟨rfl, rfl⟩
     go_wp2_with fail
     refine (writeStringF B b _ s w2 h2 (by rw [Lib.byteCells_length]; omega) (by omega)).mono ?_; rintro e w3 ⟨rfl, h3, b3⟩
     rw [cellsApp, <- HT.out] at h3
     have B3 := B2.trans b3
     clear h2 b3 B2 hHS
     go_wp2
     go_roundw
     case rel => exact ⟨k + 1, by omega, by go_num, .inr h3, B3⟩
     case measure => first | (simp [intOf]; omega) | simp [intOf]
    | false =>
     rw [he] at hHS
     have HT : Hid (putP l (ss.take (k + 1)) = X ++ [10] ++ s.data.toList) := by
      show _ = _
      rw [hT]; unfold closeL; rw [if_neg h0, if_neg (by rw [he]; decide)]
     clear hT he h0
     go_wp2_with fail
     refine (hHS _).mono ?_; rintro e w2 ⟨rfl, rfl⟩
     go_wp2_with fail
     refine (writeByteF B b _ 10 w2 h2 (by rw [Lib.byteCells_length]; omega) (by omega)).mono ?_; rintro e w3 ⟨rfl, h3, b3⟩
     rw [cellsLF] at h3
     have B3 := B2.trans b3
     have z3 := b3.size
     clear h2 b3 B2 hHS
     go_wp2_with fail
     refine (writeStringF B b _ s w3 (.inr h3) (by rw [Lib.byteCells_length]; simp; omega) (by omega)).mono ?_; rintro e w4 ⟨rfl, h4, b4⟩
     rw [cellsApp, <- HT.out] at h4
     have B4 := B3.trans b4
     clear h3 b4 B3
     go_wp2
     go_roundw
     case rel => exact ⟨k + 1, by omega, by go_num, .inr h4, B4⟩
     case measure => first | (simp [intOf]; omega) | simp [intOf]
  ·have q : ¬ (k : Int) < (ss.length : Int) := by omega
   have e : ss.take k = ss := List.take_of_length_le (by omega)
   rw [e] at hbf
   clear e
   go_wp2
   go_end0
   exact ⟨rfl, hbf, hbel⟩
end Go.Proofs.YtcfnkndbhpdfnaaGreatDoor
namespace Go.Proofs.YtcfnkndbhpdfnaaGreatDoor.Rm
open Go.RowKit
def catL (ss : List ByteArray) : List UInt8 := ss.flatMap fun s => s.data.toList
def catB (ss : List ByteArray) : ByteArray := ⟨(catL ss).toArray⟩
theorem catL_length (ss : List ByteArray) : ((catL ss).length : Int) = tot ss := by
 unfold catL tot
 induction ss with
 | nil => simp
 | cons s ss ih => simp only [List.flatMap_cons, List.length_append, List.map_cons, List.sum_cons, <- ih]; simp
theorem catB_size (ss : List ByteArray) : ((catB ss).size : Int) = tot ss := by
 rw [<- catL_length]; rfl
theorem spl_flatten (l : List UInt8) : (spl l).flatten = l := by
 induction l with
 | nil => rfl
 | cons c l ih =>
  rw [spl]
  by_cases hc : c = 10
  ·rw [if_pos hc]; simp [ih]
  ·rw [if_neg hc]
   cases h : spl l with
   | nil => rw [h] at ih; simp at ih; simp [<- ih]
   | cons x xs => rw [h] at ih; simp at ih ⊢; exact ih
theorem ok_feed (a : List UInt8) (b : Bool) (h : ¬ (10 : UInt8) ∈ a) : okLine (a ++ [10]) b = true := by
 have hi := indexByte_app a [] 10 h
 unfold okLine
 rw [if_neg (by simp), hi, if_neg (by omega)]
 simp
theorem ok_none (a : List UInt8) (h : ¬ (10 : UInt8) ∈ a) (h0 : a ≠ []) : okLine a true = true := by
 unfold okLine
 rw [if_neg h0, indexByte_none a 10 h, if_pos (by omega)]
theorem ok_inv {x : List UInt8} {b : Bool} (h : okLine x b = true) : (∃ a, ¬ (10 : UInt8) ∈ a /\ x = a ++ [10]) \/ (¬ (10 : UInt8) ∈ x /\ x ≠ [] /\ b = true) := by
 unfold okLine at h
 by_cases h0 : x = []
 ·rw [if_pos h0] at h; cases h
 ·rw [if_neg h0] at h
  by_cases hneg : Lib.indexByte x 10 < 0
  ·rw [if_pos hneg] at h
   exact .inr ⟨fun hm => by have := (indexByte_mem x 10).2 hm; omega, h0, h⟩
  ·rw [if_neg hneg] at h
   obtain ⟨i1, i2, i3⟩ := indexByte_split x 10 hneg
   have he := of_decide_eq_true h
   refine .inl ⟨_, i1, ?_⟩
   have hd : x.drop ((Lib.indexByte x 10).toNat + 1) = [] := List.drop_of_length_le (by omega)
   rw [hd] at i2
   exact i2
def Right : List (List UInt8) -> Prop
 | [] => True
 | [x] => okLine x true = true
 | x :: y :: r => okLine x false = true /\ Right (y :: r)
theorem right_spl : ∀ (m : Nat) (l : List UInt8), l.length <= m -> Right (spl l) := by
 intro m
 induction m with
 | zero => intro l h; have : l = [] := List.length_eq_zero_iff.1 (by omega)
           rw [this]; trivial
 | succ m ih =>
  intro l h
  by_cases h0 : l = []
  ·rw [h0]; trivial
  ·by_cases hneg : Lib.indexByte l 10 < 0
   ·have hn : ¬ (10 : UInt8) ∈ l := fun hm => by have := (indexByte_mem l 10).2 hm; omega
    rw [spl_one l hn h0]
    exact ok_none l hn h0
   ·obtain ⟨i1, i2, i3⟩ := indexByte_split l 10 hneg
    have e : spl l = (l.take (Lib.indexByte l 10).toNat ++ [10]) :: spl (l.drop ((Lib.indexByte l 10).toNat + 1)) := by
     conv => lhs; rw [i2]
     exact spl_feed _ _ i1
    have hr := ih (l.drop ((Lib.indexByte l 10).toNat + 1)) (by rw [List.length_drop]; omega)
    rw [e]
    cases hs : spl (l.drop ((Lib.indexByte l 10).toNat + 1)) with
    | nil => exact ok_feed _ _ i1
    | cons y r => rw [hs] at hr; exact ⟨ok_feed _ _ i1, hr⟩
def dat (ss : List ByteArray) : List (List UInt8) := ss.map fun s => s.data.toList
theorem okAt_succ (s : ByteArray) (ss : List ByteArray) (i : Nat) : okAt (s :: ss) (i + 1) = okAt ss i := by
 unfold okAt
 have e : decide (((i + 1 : Nat) : Int) = ((s :: ss).length : Int) - 1) = decide ((i : Int) = (ss.length : Int) - 1) := by
  rw [decide_eq_decide]; simp only [List.length_cons]; omega
 rw [e]
 rfl
theorem right_iff : ∀ (ss : List ByteArray), (∀ i, i < ss.length -> okAt ss i = true) ↔ Right (dat ss)
 | [] => by simp [dat, Right]
 | [s] => by
  constructor
  ·intro h; exact h 0 (by simp)
  ·intro h i hi
   have : i = 0 := by simp at hi; omega
   subst this; exact h
 | s :: t :: r => by
  have ih := right_iff (t :: r)
  have e0 : okAt (s :: t :: r) 0 = okLine s.data.toList false := by
   unfold okAt
   rw [decide_eq_false (by simp only [List.length_cons]; omega)]
   rfl
  constructor
  ·intro h
   refine ⟨by have := h 0 (by simp); rw [e0] at this; exact this, ih.1 fun i hi => ?_⟩
   have := h (i + 1) (by simp at hi ⊢; omega)
   rwa [okAt_succ] at this
  ·rintro ⟨h1, h2⟩ i hi
   cases i with
   | zero => rw [e0]; exact h1
   | succ i => rw [okAt_succ]; exact ih.2 h2 i (by simp at hi ⊢; omega)
theorem allOk_iff (ss : List ByteArray) : allOk ss ss.length = true ↔ Right (dat ss) := by
 rw [<- right_iff]
 unfold allOk
 rw [List.all_eq_true]
 simp only [List.mem_range]
theorem catL_dat (ss : List ByteArray) : catL ss = (dat ss).flatten := by unfold catL dat; rw [List.flatMap_def]
theorem dat_lines (s : ByteArray) : dat (linesOf s) = spl s.data.toList := by
 unfold dat linesOf linesFrom
 rw [List.map_map]
 conv => rhs; rw [<- List.map_id (spl s.data.toList)]
 rw [List.drop_zero]
 exact List.map_congr_left fun l _ => mkB_data l
theorem join_lines (s : ByteArray) : catB (linesOf s) = s := by
 apply WideShapes.bytes_inj
 show catL (linesOf s) = _
 rw [catL_dat, dat_lines, spl_flatten]
theorem lf_lines {s : ByteArray} (h : tf s = 0) : lf (linesOf s) = 0 := by
 have hm : ¬ (2000 < (s.size : Int) \/ 100 < ((linesOf s).length : Int)) := by
  intro hm
  rw [tf_many hm] at h
  cases h
 have ht : tot (linesOf s) = s.size := by rw [<- catB_size, join_lines]
 refine lf_ok (by omega) ?_
 rw [allOk_iff, dat_lines]
 exact right_spl _ _ (Nat.le_refl _)
end Go.Proofs.YtcfnkndbhpdfnaaGreatDoor.Rm
