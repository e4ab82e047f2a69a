/- Plain mathematics of the text of a clash. No statement is proved here. -/
import Derived.Test.YtciddfpkcdicaaaLemQ
import Derived.Test.YtciddfpkcdicaaaLFLemQ
import Derived.Test.YtciddfpkcdicaaaCkLQ
namespace Go.Proofs.Ytciddfpkcdicaaa
open Go.RowKit

/-- The last byte is a line feed. -/
def endsL (l : List UInt8) : Bool := decide (l.getLast? = some 10)
/-- A line that is still open gets its line feed. -/
def closeL (l : List UInt8) : List UInt8 := if l = [] then l else if endsL l = true then l else l ++ [10]
def endL (s : ByteArray) : List UInt8 := if endsL s.data.toList = true then s.data.toList else s.data.toList ++ [10]
def endAll (ss : List ByteArray) : List UInt8 := ss.flatMap endL
theorem endAll_take (ss : List ByteArray) (k : Nat) (h : k < ss.length) : endAll (ss.take (k + 1)) = endAll (ss.take k) ++ endL (ss.getD k ByteArray.empty) := by
  unfold endAll
  rw [List.take_succ_eq_append_getElem h, List.flatMap_append, getD_at ss k h]
  simp
theorem endL_le (s : ByteArray) : (endL s).length ≤ s.size + 1 := by
  unfold endL
  split <;> simp
theorem endAll_le (ss : List ByteArray) : ((endAll ss).length : Int) ≤ tot ss + ss.length := by
  induction ss with
  | nil => simp [endAll, tot]
  | cons s t ih =>
    have h1 := endL_le s
    have e1 : endAll (s :: t) = endL s ++ endAll t := by simp [endAll]
    have e2 : tot (s :: t) = (s.size : Int) + tot t := by simp [tot]
    rw [e1, e2, List.length_append, List.length_cons]
    omega
/-- What writeParts makes of a text. -/
def putP (l : List UInt8) (ss : List ByteArray) : List UInt8 := ss.foldl (fun a s => closeL a ++ s.data.toList) l
theorem putP_take (l : List UInt8) (ss : List ByteArray) (k : Nat) (h : k < ss.length) : putP l (ss.take (k + 1)) = closeL (putP l (ss.take k)) ++ (ss.getD k ByteArray.empty).data.toList := by
  unfold putP
  rw [List.take_succ_eq_append_getElem h, List.foldl_append, getD_at ss k h]
  rfl
theorem closeL_le (l : List UInt8) : (closeL l).length ≤ l.length + 1 := by
  unfold closeL
  split
  · omega
  · split <;> simp
theorem putP_le (l : List UInt8) (ss : List ByteArray) : ((putP l ss).length : Int) ≤ l.length + tot ss + ss.length := by
  induction ss generalizing l with
  | nil => simp [putP, tot]
  | cons s t ih =>
    have e1 : putP l (s :: t) = putP (closeL l ++ s.data.toList) t := rfl
    have e2 : tot (s :: t) = (s.size : Int) + tot t := by simp [tot]
    have h1 := closeL_le l
    have h2 := ih (closeL l ++ s.data.toList)
    have h3 : s.data.toList.length = s.size := by simp
    rw [List.length_append] at h2
    rw [e1, e2, List.length_cons]
    omega
theorem endsL_app (x l : List UInt8) (h : l ≠ []) : endsL (x ++ l) = endsL l := by
  unfold endsL
  rw [List.getLast?_append]
  cases e : l.getLast? with
  | none => exact absurd (List.getLast?_eq_none_iff.1 e) h
  | some v => rfl
theorem closeL_app (x : List UInt8) (s : ByteArray) (h : s.data.toList ≠ []) : closeL (x ++ s.data.toList) = x ++ endL s := by
  unfold closeL endL
  rw [if_neg (by simp [h]), endsL_app x _ h]
  split
  · rfl
  · rw [List.append_assoc]
theorem closeL_hdr (x l : List UInt8) (h : l ≠ []) (e : endsL l = true) : closeL (x ++ l) = x ++ l := by
  unfold closeL
  rw [if_neg (by simp [h]), endsL_app x _ h, if_pos e]
theorem putP_close (ss : List ByteArray) (l : List UInt8) (h : ∀ s ∈ ss, s.data.toList ≠ []) : closeL (putP l ss) = closeL l ++ endAll ss := by
  induction ss generalizing l with
  | nil => simp [putP, endAll]
  | cons s t ih =>
    have e1 : putP l (s :: t) = putP (closeL l ++ s.data.toList) t := rfl
    have e2 : endAll (s :: t) = endL s ++ endAll t := by simp [endAll]
    rw [e1, ih _ (fun x hx => h x (by simp [hx])), closeL_app _ _ (h s (by simp)), e2, List.append_assoc]
/-- The lines of a clash are right by themselves. -/
def wh (ss : List ByteArray) : Bool := ss.all fun s => okLine s.data.toList true
theorem wh_bad {ss : List ByteArray} {k : Nat} (hk : k < ss.length) (h : okLine (ss.getD k ByteArray.empty).data.toList true = false) : wh ss = false := by
  unfold wh
  cases e : ss.all fun s => okLine s.data.toList true with
  | false => rfl
  | true =>
    rw [getD_at ss k hk] at h
    have := List.all_eq_true.1 e _ (List.getElem_mem hk)
    rw [h] at this; cases this
theorem wh_take {ss : List ByteArray} {k : Nat} (hk : k < ss.length) (h : wh (ss.take k) = true) (e : okLine (ss.getD k ByteArray.empty).data.toList true = true) : wh (ss.take (k + 1)) = true := by
  unfold wh at *
  rw [List.take_succ_eq_append_getElem hk, List.all_append, h]
  rw [getD_at ss k hk] at e
  simp [e]
theorem wh_pos {ss : List ByteArray} (h : wh ss = true) : ∀ s ∈ ss, s.data.toList ≠ [] := fun s hs e => by
  have := List.all_eq_true.1 h s hs
  unfold okLine at this
  rw [if_pos e] at this
  cases this
theorem okLine_true (l : List UInt8) : okLine l true = !(decide (l = []) || decide (ended l < l.length - 1)) := by
  have := okLine_spec l 0 1 (by omega)
  simpa using this
def h1L : List UInt8 := [60, 60, 60, 60, 60, 60, 60, 10]
def h2L : List UInt8 := [124, 124, 124, 124, 124, 124, 124, 10]
def h3L : List UInt8 := [61, 61, 61, 61, 61, 61, 61, 10]
def h4L : List UInt8 := [62, 62, 62, 62, 62, 62, 62, 10]
/-- The text of a clash. -/
def clashL (b o t : List ByteArray) : List UInt8 := h1L ++ endAll o ++ h2L ++ endAll b ++ h3L ++ endAll t ++ h4L
theorem clash_made {b o t : List ByteArray} (hb : wh b = true) (ho : wh o = true) (ht : wh t = true) :
    closeL (putP (closeL (putP (closeL (putP (closeL [] ++ h1L) o) ++ h2L) b) ++ h3L) t) ++ h4L = clashL b o t := by
  have e0 : closeL ([] : List UInt8) = [] := rfl
  rw [e0, List.nil_append, putP_close _ _ (wh_pos ht), closeL_hdr _ _ (by decide) (by decide), putP_close _ _ (wh_pos hb), closeL_hdr _ _ (by decide) (by decide), putP_close _ _ (wh_pos ho)]
  have e1 : closeL h1L = h1L := by decide
  rw [e1]
  rfl
end Go.Proofs.Ytciddfpkcdicaaa
