/- The contracts of l5Find, l5Get and the specification's GetObject. No statement is proved here. -/
import Derived.Test.YtibgfngicijnlakRows
import Derived.Test.YtibgfngicijnlakLem
import Derived.Test.YtibgfngicijnlakStrs
import Derived.Test.YtibgfngicijnlakLFLem
import Derived.Test.YtibgfngicijnlakSplLem
import Derived.Test.YtibgfngicijnlakDTab
import Derived.Test.YtibgfngicijnlakOwn
import Derived.Test.YtibgfngicijnlakFr
import Derived.Test.YtibgfngicijnlakIn
import Derived.Test.YtibgfngicijnlakHkT
import Derived.Test.YtibgfngicijnlakIdM
import Derived.Test.YtibgfngicijnlakObL
import Derived.Test.YtibgfngicijnlakSfC
import Derived.WalkKit
import Derived.ProofKit
import Derived.Below
import Derived.WalkSpells
import Derived.Deep.QuietTactic
import Derived.BigQuiet
import Derived.Laws.Cover1
namespace Go.Proofs.Ytibgfngicijnlak
open Go.ChangeShapes Go.WideShapes Go.ChangeAt Go.RowKit

/-- The place of an id among objects; -1 where it is not. -/
def fnd (l : List Ob) (id : ByteArray) : Nat := l.findIdx fun o => decide (o.1 = id)
def fz (l : List Ob) (id : ByteArray) : Int := if fnd l id < l.length then (fnd l id : Int) else -1
theorem fz_at {l : List Ob} {id : ByteArray} {k : Nat} (hk : k < l.length) (h0 : ∀ j, j < k → ¬ (l.getD j onil).1 = id) (h : (l.getD k onil).1 = id) : fz l id = k := by
  have e : fnd l id = k := by
    unfold fnd
    rw [List.findIdx_eq hk]
    refine ⟨?_, fun j hj => ?_⟩
    · rw [List.getD, List.getElem?_eq_getElem hk] at h
      simpa using h
    · have := h0 j hj
      rw [List.getD, List.getElem?_eq_getElem (by omega)] at this
      simpa using this
  unfold fz
  rw [e, if_pos hk]
theorem fz_none {l : List Ob} {id : ByteArray} (h0 : ∀ j, j < l.length → ¬ (l.getD j onil).1 = id) : fz l id = -1 := by
  unfold fz
  rw [if_neg]
  intro h
  have := List.findIdx_getElem (w := h)
  refine h0 _ h ?_
  rw [List.getD, List.getElem?_eq_getElem h]
  exact of_decide_eq_true this
theorem fz_cases (l : List Ob) (id : ByteArray) : fz l id = -1 ∨ ∃ k : Nat, fz l id = k ∧ k < l.length ∧ (l.getD k onil).1 = id := by
  unfold fz
  by_cases h : fnd l id < l.length
  · rw [if_pos h]
    refine .inr ⟨_, rfl, h, ?_⟩
    have := List.findIdx_getElem (w := h)
    rw [List.getD, List.getElem?_eq_getElem h]
    exact of_decide_eq_true this
  · rw [if_neg h]
    exact .inl rfl

set_option maxRecDepth 20000 in
set_option maxHeartbeats 1000000 in
theorem l5Find (a : Option Addr) (c : Nat) (l : List Ob) (id : ByteArray) (w : World) (h : OB w.heap.size w a l) (hn : l.length ≤ 1048576) :
    Calls Try.prog 57 #[.slice a l.length c, .string id] w fun e w' => e = .returned (.int .i64 (fz l id)) ∧ w' = w := by
  go_enter Try.func57, Try.ntmps57
  go_wp2
  go_loopw [5] (fun i wr => ∃ k : Nat, k ≤ l.length ∧ i = .int .i64 k ∧ wr = w ∧ ∀ j, j < k → ¬ (l.getD j onil).1 = id) (fun i _ => l.length - (intOf i).toNat)
  case atStart => exact ⟨0, Nat.zero_le _, rfl, rfl, fun j hj => by omega⟩
  case round =>
    obtain ⟨k, hk, rfl, rfl, h0⟩ := hrel
    by_cases hlt : k < l.length
    · have q : (k : Int) < (l.length : Int) := by omega
      obtain ⟨g, off, e, hg, d0, d1, d2⟩ := h k hlt
      subst e
      obtain ⟨x, hx⟩ : ∃ x, (l.getD k onil).1 = x := ⟨_, rfl⟩
      rw [hx] at d0
      by_cases e : x = id
      · have HE : Hid (fz l id = k) := fz_at hlt h0 (hx.trans e)
        subst e
        have hb := beqS x
        clear d1 d2 h0 hx
        go_wp2
        go_ret
        exact ⟨ret_int HE.out.symm, rfl⟩
      · have hb : (x.toList == id.toList) = false := beq_bytes_false e
        have HN : Hid (∀ j, j < k + 1 → ¬ (l.getD j onil).1 = id) := fun j hj => by
          by_cases hjk : j < k
          · exact h0 j hjk
          · rw [show j = k by omega, hx]; exact e
        clear d1 d2 h0 hx
        go_wp2
        go_roundw
        case rel => exact ⟨k + 1, by omega, by go_num, by trivial, HN.out⟩
        case measure => first | (simp [intOf]; omega) | simp [intOf]
    · have q : ¬ (k : Int) < (l.length : Int) := by omega
      have HE : Hid (fz l id = -1) := fz_none (fun j hj => h0 j (by omega))
      clear h0
      go_wp2
      go_ret
      exact ⟨ret_int HE.out.symm, rfl⟩

/-- The data of the object of a kind and an id. -/
def gt (l : List Ob) (k : Int) (id : ByteArray) : Option ByteArray :=
  if fz l id < 0 then none else if (l.getD (fz l id).toNat onil).2.1 = k then some (l.getD (fz l id).toNat onil).2.2 else none
theorem gt_less {l : List Ob} {k : Int} {id : ByteArray} (h : fz l id = -1) : gt l k id = none := if_pos (by omega)
theorem gt_no {l : List Ob} {k : Int} {id : ByteArray} {n : Nat} (h : fz l id = n) (e : ¬ (l.getD n onil).2.1 = k) : gt l k id = none := by
  unfold gt; rw [h, if_neg (by omega), if_neg (by simpa using e)]
theorem gt_yes {l : List Ob} {k : Int} {id : ByteArray} {n : Nat} (h : fz l id = n) (e : (l.getD n onil).2.1 = k) : gt l k id = some (l.getD n onil).2.2 := by
  unfold gt; rw [h, if_neg (by omega), if_pos (by simpa using e)]; simp
theorem beqNI {a b : Int} (h : ¬ a = b) : (a == b) = false := by simp [h]
theorem ret_get {s t : ByteArray} {b d : Bool} (h : s = t) (k : b = d) : Ending.returned (.tuple #[.string s, .bool b]) = .returned (.tuple #[.string t, .bool d]) := by rw [h, k]

set_option maxRecDepth 20000 in
set_option maxHeartbeats 1000000 in
theorem l5Get (a : Option Addr) (c : Nat) (l : List Ob) (kd : Int) (id : ByteArray) (w : World) (h : OB w.heap.size w a l) (hn : l.length ≤ 1048576) :
    Calls Try.prog 46 #[.slice a l.length c, .int .i64 kd, .string id] w fun e w' => e = .returned (.tuple #[.string ((gt l kd id).getD ByteArray.empty), .bool (gt l kd id).isSome]) ∧ w' = w := by
  have hF := l5Find a c l id w h hn
  rcases fz_cases l id with e | ⟨k, e, hlt, _⟩
  · have HG : Hid (gt l kd id = none) := gt_less e
    rw [e] at hF
    go_enter Try.func46, Try.ntmps46
    go_wp2_with fail
    refine hF.mono ?_; rintro e w ⟨rfl, rfl⟩
    go_wp2
    refine bodyPost_ret (v := .tuple #[.string ⟨#[]⟩, .bool false]) (by simp [results, Try.results46, go_sem]) rfl ?_
    exact ⟨ret_get (by rw [HG.out]; rfl) (by rw [HG.out]; rfl), rfl⟩
  · have q : (k : Int) < (l.length : Int) := by omega
    have q0 : ¬ (k : Int) < 0 := by omega
    obtain ⟨g, off, ea, hg, d0, d1, d2⟩ := h k hlt
    subst ea
    by_cases hk : (l.getD k onil).2.1 = kd
    · have HG : Hid (gt l kd id = some (l.getD k onil).2.2) := gt_yes e hk
      rw [e] at hF
      rw [hk] at d1
      obtain ⟨D, hD⟩ : ∃ D, (l.getD k onil).2.2 = D := ⟨_, rfl⟩
      rw [hD] at HG d2
      clear h hD hk
      go_enter Try.func46, Try.ntmps46
      go_wp2_with fail
      refine hF.mono ?_; rintro e w ⟨rfl, rfl⟩
      go_wp2
      refine bodyPost_ret (v := .tuple #[.string D, .bool true]) (by simp [results, Try.results46, go_sem]) rfl ?_
      exact ⟨ret_get (by rw [HG.out]; rfl) (by rw [HG.out]; rfl), rfl⟩
    · have HG : Hid (gt l kd id = none) := gt_no e hk
      rw [e] at hF
      obtain ⟨D, hD⟩ : ∃ D, (l.getD k onil).2.1 = D := ⟨_, rfl⟩
      rw [hD] at hk d1
      have qk : (D == kd) = false := beqNI hk
      have qk2 : (D != kd) = true := by simp [bne, qk]
      clear h hD hk
      go_enter Try.func46, Try.ntmps46
      go_wp2_with fail
      refine hF.mono ?_; rintro e w ⟨rfl, rfl⟩
      go_wp2
      refine bodyPost_ret (v := .tuple #[.string ⟨#[]⟩, .bool false]) (by simp [results, Try.results46, go_sem]) rfl ?_
      exact ⟨ret_get (by rw [HG.out]; rfl) (by rw [HG.out]; rfl), rfl⟩

/-- What GetObject answers. -/
def goR (l : List Ob) (k : Int) (id : ByteArray) : Int := if sf l = 0 then (if inB k 1 3 = true then (if (gt l k id).isSome = true then 0 else 4) else 3) else sf l
def goO (l : List Ob) (k : Int) (id : ByteArray) : Ob := if goR l k id = 0 then (id, k, (gt l k id).getD ByteArray.empty) else onil
/-- An answer that is an object. -/
def OP (c : Int) (o : Ob) (w : World) (e : Ending) (w' : World) : Prop :=
  e = .returned (.agg #[.int .i64 c, .string o.1, .int .i64 o.2.1, .string o.2.2]) ∧ Below w.heap.size w w'
theorem ret_obj {c d : Int} {o p : Ob} (h : c = d) (k : o = p) : Ending.returned (.agg #[.int .i64 c, .string o.1, .int .i64 o.2.1, .string o.2.2]) = .returned (.agg #[.int .i64 d, .string p.1, .int .i64 p.2.1, .string p.2.2]) := by rw [h, k]
theorem below_sets4 {B p : Nat} {w w2 : World} (h : Below B w w2) (hp : B ≤ p) (v0 v1 v2 v3 : Value) : Below B w ((((w2.setCell ⟨p, 0, none⟩ v0).setCell ⟨p, 1, none⟩ v1).setCell ⟨p, 2, none⟩ v2).setCell ⟨p, 3, none⟩ v3) :=
  (((h.setCell (p := ⟨p, 0, none⟩) hp v0).setCell (p := ⟨p, 1, none⟩) hp v1).setCell (p := ⟨p, 2, none⟩) hp v2).setCell (p := ⟨p, 3, none⟩) hp v3

set_option maxRecDepth 20000 in
set_option maxHeartbeats 2000000 in
theorem specGetObject (a : Option Addr) (c : Nat) (l : List Ob) (kd : Int) (id : ByteArray) (w : World) (h : OB w.heap.size w a l) (hs : SmallO l) (hn : l.length ≤ 1048576) :
    Calls Try.prog 25 #[.slice a l.length c, .int .i64 kd, .string id] w fun e w' => OP (goR l kd id) (goO l kd id) w e w' := by
  have hA := fun w h => specStoreFault a c l w h hs hn
  have hG := fun w h => l5Get a c l kd id w h hn
  have hFF : ¬ sf l = 0 → Hid (goR l kd id = sf l ∧ goO l kd id = onil) := fun e => by
    have e1 : goR l kd id = sf l := if_neg e
    exact ⟨e1, if_neg (by rw [e1]; exact e)⟩
  have hRR : sf l = 0 → inB kd 1 3 = false → Hid (goR l kd id = 3 ∧ goO l kd id = onil) := fun e k => by
    have e1 : goR l kd id = 3 := by unfold goR; rw [if_pos e, if_neg (by rw [k]; decide)]
    exact ⟨e1, if_neg (by rw [e1]; decide)⟩
  have hNN : sf l = 0 → inB kd 1 3 = true → gt l kd id = none → Hid (goR l kd id = 4 ∧ goO l kd id = onil) := fun e k g => by
    have e1 : goR l kd id = 4 := by unfold goR; rw [if_pos e, if_pos k, g]; rfl
    exact ⟨e1, if_neg (by rw [e1]; decide)⟩
  have hOK : sf l = 0 → inB kd 1 3 = true → ∀ D, gt l kd id = some D → Hid (goR l kd id = 0 ∧ goO l kd id = (id, kd, D)) := fun e k D g => by
    have e1 : goR l kd id = 0 := by unfold goR; rw [if_pos e, if_pos k, g]; rfl
    exact ⟨e1, by unfold goO; rw [if_pos e1, g]; rfl⟩
  obtain ⟨R, hR⟩ : ∃ R, goR l kd id = R := ⟨_, rfl⟩
  obtain ⟨L, hL⟩ : ∃ L, goO l kd id = L := ⟨_, rfl⟩
  rw [hR, hL] at hFF hRR hNN hOK ⊢
  obtain ⟨F, hF⟩ : ∃ F, sf l = F := ⟨_, rfl⟩
  rw [hF] at hA hFF hRR hNN hOK
  obtain ⟨G, hGe⟩ : ∃ G, gt l kd id = G := ⟨_, rfl⟩
  rw [hGe] at hG hNN hOK
  clear hF hR hL hGe
  obtain ⟨W1, hW1⟩ : ∃ W1, w.alloc (.cells #[.int .i64 0, .string ⟨#[]⟩, .int .i64 0, .string ⟨#[]⟩] 45) = W1 := ⟨_, rfl⟩
  have b1 : Below w.heap.size w W1 := by rw [← hW1]; exact allocBelow _ _
  have zW : w.heap.size < W1.heap.size := by rw [← hW1]; simp
  have r1 : Rf W1 w.heap.size [.int .i64 0, .string ⟨#[]⟩, .int .i64 0, .string ⟨#[]⟩] := by rw [← hW1]; exact Rf.new _ _ _
  have A1 := h.below b1
  go_enter Try.func25, Try.ntmps25
  go_wp2_with fail
  refine (hA _ (A1.mono (by omega))).mono ?_; rintro e w2 ⟨rfl, b2⟩
  have A2 := A1.below b2
  have r2 := r1.below zW b2
  have B2 := b1.trans (b2.mono b1.size)
  have z2 : w.heap.size < w2.heap.size := Nat.lt_of_lt_of_le zW b2.size
  have d0 := r2.at_ 0 _ rfl
  have d1 := r2.at_ 1 _ rfl
  have d2 := r2.at_ 2 _ rfl
  have d3 := r2.at_ 3 _ rfl
  have f0 := r2.fz 0
  have f1 := r2.fz 1
  have f2 := r2.fz 2
  have f3 := r2.fz 3
  clear A1 r1 b1 b2 hA hW1 h zW r2
  have HB : ∀ v0 v1 v2 v3, Hid (Below w.heap.size w ((((w2.setCell ⟨w.heap.size, 0, none⟩ v0).setCell ⟨w.heap.size, 1, none⟩ v1).setCell ⟨w.heap.size, 2, none⟩ v2).setCell ⟨w.heap.size, 3, none⟩ v3)) := fun v0 v1 v2 v3 => below_sets4 B2 (Nat.le_refl _) _ _ _ _
  by_cases e0 : F = 0
  · replace hRR := hRR e0
    replace hNN := hNN e0
    replace hOK := hOK e0
    subst e0
    clear hFF
    have hI := fun w => l5Kind kd w
    cases hin : inB kd 1 3 with
    | false =>
      have hC := hRR hin
      rw [hin] at hI
      clear hRR hNN hOK hin hG
      go_wp2_with fail
      refine (hI _).mono ?_; rintro e w2 ⟨rfl, rfl⟩
      go_wp2
      refine bodyPost_ret (v := .agg #[.int .i64 3, .string ⟨#[]⟩, .int .i64 0, .string ⟨#[]⟩]) (by simp [results, Try.results25, go_sem, d0, d1, d2, d3]) rfl ?_
      exact ⟨ret_obj (o := onil) hC.out.1.symm hC.out.2.symm, (HB _ _ _ _).out⟩
    | true =>
      replace hNN := hNN hin
      replace hOK := hOK hin
      rw [hin] at hI
      clear hRR hin
      cases G with
      | none =>
        have hC := hNN rfl
        clear hNN hOK
        go_wp2_with fail
        refine (hI _).mono ?_; rintro e w2 ⟨rfl, rfl⟩
        go_wp2_with fail
        refine (hG _ (A2.mono (by omega))).mono ?_; rintro e w2 ⟨rfl, rfl⟩
        go_wp2
        refine bodyPost_ret (v := .agg #[.int .i64 4, .string ⟨#[]⟩, .int .i64 0, .string ⟨#[]⟩]) (by simp [results, Try.results25, go_sem, d0, d1, d2, d3]) rfl ?_
        exact ⟨ret_obj (o := onil) hC.out.1.symm hC.out.2.symm, (HB _ _ _ _).out⟩
      | some D =>
        have hC := hOK D rfl
        clear hNN hOK
        go_wp2_with fail
        refine (hI _).mono ?_; rintro e w2 ⟨rfl, rfl⟩
        go_wp2_with fail
        refine (hG _ (A2.mono (by omega))).mono ?_; rintro e w2 ⟨rfl, rfl⟩
        go_wp2
        refine bodyPost_ret (v := .agg #[.int .i64 0, .string id, .int .i64 kd, .string D]) (by simp [results, Try.results25, go_sem, d0, d1, d2, d3]) rfl ?_
        exact ⟨ret_obj (o := (id, kd, D)) hC.out.1.symm hC.out.2.symm, (HB _ _ _ _).out⟩
  · have hC := hFF e0
    have q0 : (F != 0) = true := ne_beq e0
    clear hRR hNN hOK hFF hG
    go_wp2
    refine bodyPost_ret (v := .agg #[.int .i64 F, .string ⟨#[]⟩, .int .i64 0, .string ⟨#[]⟩]) (by simp [results, Try.results25, go_sem, d0, d1, d2, d3]) rfl ?_
    exact ⟨ret_obj (o := onil) hC.out.1.symm hC.out.2.symm, (HB _ _ _ _).out⟩
end Go.Proofs.Ytibgfngicijnlak
