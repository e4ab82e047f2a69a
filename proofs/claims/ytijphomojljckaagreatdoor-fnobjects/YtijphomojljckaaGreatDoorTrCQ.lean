/- The contracts of entryFault, l6Words, l6Tree and the specification's TreeFault. No statement is proved here. -/
import Derived.Test.YtijphomojljckaaGreatDoorRows
import Derived.Test.YtijphomojljckaaGreatDoorLemQ
import Derived.Test.YtijphomojljckaaGreatDoorInQ
import Derived.Test.YtijphomojljckaaGreatDoorComQ
import Derived.Test.YtijphomojljckaaGreatDoorHkTQ
import Derived.Test.YtijphomojljckaaGreatDoorIterQ
import Derived.Test.YtijphomojljckaaGreatDoorIdLQ
import Derived.Test.YtijphomojljckaaGreatDoorTeLQ
import Derived.Test.YtijphomojljckaaGreatDoorJnCQ
import Derived.WalkKit
import Derived.ProofKit
import Derived.Below
import Derived.WalkSpells
import Derived.Laws.Concat
import Derived.Deep.RegionWith
import Derived.Deep.QuietTactic
import Derived.BigQuiet
import Derived.Deep.RegionHeld
namespace Go.Proofs.YtijphomojljckaaGreatDoor.Te
open Go.ChangeShapes Go.WideShapes Go.ChangeAt Go.RowKit

theorem quietN {P : Program} {f : FuncId} {args : Array Value} {w : World} {n : Nat} {v : Value}
    (h : Calls P f args (w.drewN n) fun e w' => e = .returned v ∧ ∃ m, w' = (w.drewN n).drewN m) : Calls P f args (w.drewN n) fun e w'' => e = .returned v ∧ ∃ m, w'' = w.drewN m :=
  h.mono fun _ _ ⟨he, m, hm⟩ => ⟨he, n + m, by rw [hm, World.drewN_drewN]⟩
theorem ef_name {x0 : ByteArray} {x1 : Int} {x2 : ByteArray} (h : ¬ nf x0 = 0) : ef x0 x1 x2 = nf x0 := if_neg h
theorem ef_mode {x0 : ByteArray} {x1 : Int} {x2 : ByteArray} (h : nf x0 = 0) (e : inB x1 1 3 = false) : ef x0 x1 x2 = 3 := by unfold ef; rw [if_pos h, if_neg (by rw [e]; decide)]
theorem ef_id {x0 : ByteArray} {x1 : Int} {x2 : ByteArray} (h : nf x0 = 0) (e : inB x1 1 3 = true) (q : isOf (ek x1) x2 = false) : ef x0 x1 x2 = 1 := by unfold ef; rw [if_pos h, if_pos e, if_neg (by rw [q]; decide)]
theorem ef_ok {x0 : ByteArray} {x1 : Int} {x2 : ByteArray} (h : nf x0 = 0) (e : inB x1 1 3 = true) (q : isOf (ek x1) x2 = true) : ef x0 x1 x2 = 0 := by unfold ef; rw [if_pos h, if_pos e, if_pos q]
theorem ek_in (x1 : Int) : ek x1 = 1 ∨ ek x1 = 2 ∨ ek x1 = 3 := by unfold ek; split <;> omega
theorem inB13 {x1 : Int} (h : inB x1 1 3 = true) : x1 = 1 ∨ x1 = 2 ∨ x1 = 3 := by
  unfold inB at h
  simp at h
  omega
theorem inB13F {x1 : Int} (h : inB x1 1 3 = false) : ¬ x1 = 1 ∧ ¬ x1 = 2 ∧ ¬ x1 = 3 := by
  refine ⟨fun e => ?_, fun e => ?_, fun e => ?_⟩ <;> subst e <;> simp [inB] at h
set_option maxRecDepth 20000 in
set_option maxHeartbeats 2000000 in
theorem efC (x0 x2 : ByteArray) (x1 : Int) (w : World) : Calls Tryz.prog 72 #[.agg #[.string x0, .int .i64 x1, .string x2]] w fun e w' => e = .returned (.int .i64 (ef x0 x1 x2)) ∧ Below w.heap.size w w' := by
  have hN := fun w => implNameFault x0 w
  have hO := fun w => isIdOf (ek x1) (ek_in x1) x2 w
  obtain ⟨W1, hW1⟩ : ∃ W, w.alloc (.cells #[.string x0, .int .i64 x1, .string x2] 72) = W := ⟨_, rfl⟩
  have b1 : Below w.heap.size w W1 := by rw [← hW1]; exact allocBelow _ _
  have r1 : Rf W1 w.heap.size [.string x0, .int .i64 x1, .string x2] := by rw [← hW1]; exact Rf.new _ _ _
  have c0 := r1.at_ 0 _ rfl
  have c1 := r1.at_ 1 _ rfl
  have c2 := r1.at_ 2 _ rfl
  by_cases hn : nf x0 = 0
  · rw [hn] at hN
    cases hin : inB x1 1 3 with
    | false =>
      obtain ⟨n1, n2, n3⟩ := inB13F hin
      have HR : Hid (ef x0 x1 x2 = 3) := ef_mode hn hin
      have q1 : (x1 == 1) = false := beq_eq_false_iff_ne.2 n1
      have q2 : (x1 == 2) = false := beq_eq_false_iff_ne.2 n2
      have q3 : (x1 == 3) = false := beq_eq_false_iff_ne.2 n3
      clear hin n1 n2 n3 hO r1 hn
      go_enter Tryz.func72, Tryz.ntmps72
      go_wp2_with fail
      refine (hN _).mono ?_; rintro e w2 ⟨rfl, rfl⟩
      go_wp2
      go_ret
      exact ⟨ret_int HR.out.symm, b1⟩
    | true =>
      have HT : isOf (ek x1) x2 = true → Hid (ef x0 x1 x2 = 0) := fun q => ef_ok hn hin q
      have HF : isOf (ek x1) x2 = false → Hid (ef x0 x1 x2 = 1) := fun q => ef_id hn hin q
      rcases inB13 hin with rfl | rfl | rfl
      · have eK : ek 1 = 1 := rfl
        rw [eK] at hO HT HF
        cases hb : isOf 1 x2 with
        | true =>
          have HR := HT hb
          rw [hb] at hO
          clear HT HF hb hin r1 hn eK
          go_enter Tryz.func72, Tryz.ntmps72
          go_wp2_with fail
          refine (hN _).mono ?_; rintro e w2 ⟨rfl, rfl⟩
          go_wp2_with fail
          refine (hO _).mono ?_; rintro e w3 ⟨rfl, n, hw3⟩
          have B3 : Below w.heap.size w w3 := by rw [hw3]; exact below_drewN' b1 n
          clear hw3
          go_wp2
          go_ret
          exact ⟨ret_int HR.out.symm, B3⟩
        | false =>
          have HR := HF hb
          rw [hb] at hO
          clear HT HF hb hin r1 hn eK
          go_enter Tryz.func72, Tryz.ntmps72
          go_wp2_with fail
          refine (hN _).mono ?_; rintro e w2 ⟨rfl, rfl⟩
          go_wp2_with fail
          refine (hO _).mono ?_; rintro e w3 ⟨rfl, n, hw3⟩
          have B3 : Below w.heap.size w w3 := by rw [hw3]; exact below_drewN' b1 n
          clear hw3
          go_wp2
          go_ret
          exact ⟨ret_int HR.out.symm, B3⟩
      · have eK : ek 2 = 1 := rfl
        rw [eK] at hO HT HF
        cases hb : isOf 1 x2 with
        | true =>
          have HR := HT hb
          rw [hb] at hO
          clear HT HF hb hin r1 hn eK
          go_enter Tryz.func72, Tryz.ntmps72
          go_wp2_with fail
          refine (hN _).mono ?_; rintro e w2 ⟨rfl, rfl⟩
          go_wp2_with fail
          refine (hO _).mono ?_; rintro e w3 ⟨rfl, n, hw3⟩
          have B3 : Below w.heap.size w w3 := by rw [hw3]; exact below_drewN' b1 n
          clear hw3
          go_wp2
          go_ret
          exact ⟨ret_int HR.out.symm, B3⟩
        | false =>
          have HR := HF hb
          rw [hb] at hO
          clear HT HF hb hin r1 hn eK
          go_enter Tryz.func72, Tryz.ntmps72
          go_wp2_with fail
          refine (hN _).mono ?_; rintro e w2 ⟨rfl, rfl⟩
          go_wp2_with fail
          refine (hO _).mono ?_; rintro e w3 ⟨rfl, n, hw3⟩
          have B3 : Below w.heap.size w w3 := by rw [hw3]; exact below_drewN' b1 n
          clear hw3
          go_wp2
          go_ret
          exact ⟨ret_int HR.out.symm, B3⟩
      · have eK : ek 3 = 2 := rfl
        rw [eK] at hO HT HF
        cases hb : isOf 2 x2 with
        | true =>
          have HR := HT hb
          rw [hb] at hO
          clear HT HF hb hin r1 hn eK
          go_enter Tryz.func72, Tryz.ntmps72
          go_wp2_with fail
          refine (hN _).mono ?_; rintro e w2 ⟨rfl, rfl⟩
          go_wp2_with fail
          refine (hO _).mono ?_; rintro e w3 ⟨rfl, n, hw3⟩
          have B3 : Below w.heap.size w w3 := by rw [hw3]; exact below_drewN' b1 n
          clear hw3
          go_wp2
          go_ret
          exact ⟨ret_int HR.out.symm, B3⟩
        | false =>
          have HR := HF hb
          rw [hb] at hO
          clear HT HF hb hin r1 hn eK
          go_enter Tryz.func72, Tryz.ntmps72
          go_wp2_with fail
          refine (hN _).mono ?_; rintro e w2 ⟨rfl, rfl⟩
          go_wp2_with fail
          refine (hO _).mono ?_; rintro e w3 ⟨rfl, n, hw3⟩
          have B3 : Below w.heap.size w w3 := by rw [hw3]; exact below_drewN' b1 n
          clear hw3
          go_wp2
          go_ret
          exact ⟨ret_int HR.out.symm, B3⟩
  · have HR : Hid (ef x0 x1 x2 = nf x0) := ef_name hn
    have q0 : (nf x0 != 0) = true := ne_beq hn
    clear hO r1 hn c1 c2
    go_enter Tryz.func72, Tryz.ntmps72
    go_wp2_with fail
    refine (hN _).mono ?_; rintro e w2 ⟨rfl, rfl⟩
    go_wp2
    go_ret
    exact ⟨ret_int HR.out.symm, b1⟩
/-- The words of modes. -/
def wd (m : Int) : ByteArray := if m = 1 then ⟨#[102, 105, 108, 101]⟩ else if m = 2 then ⟨#[114, 117, 110]⟩ else ⟨#[116, 114, 101, 101]⟩
theorem l6Words (w : World) : Calls Tryz.prog 53 #[] w fun e w' => e = .returned (.slice (some ⟨w.heap.size, 0, none⟩) 4 4) ∧ w' = w.alloc (.cells #[.string ⟨#[]⟩, .string ⟨#[102, 105, 108, 101]⟩, .string ⟨#[114, 117, 110]⟩, .string ⟨#[116, 114, 101, 101]⟩] 9) := by
  go_enter Tryz.func53, Tryz.ntmps53
  go_wp2
  go_ret
  exact ⟨rfl, rfl⟩
/-- The line of an entry, and the text of a tree. -/
def el (o : Ob) : List UInt8 := (wd o.2.1).data.toList ++ 32 :: (o.2.2.data.toList ++ 32 :: (o.1.data.toList ++ [10]))
def trL (l : List Ob) : List UInt8 := l.flatMap el
def trB (l : List Ob) : ByteArray := ⟨(trL l).toArray⟩
theorem trL_take (l : List Ob) (k : Nat) (h : k < l.length) : trL (l.take (k + 1)) = trL (l.take k) ++ el (l.getD k onil) := by
  unfold trL
  rw [ob_take l k h, List.flatMap_append]
  simp
theorem trB_take (l : List Ob) (k : Nat) (h : k < l.length) : trB (l.take (k + 1)) = trB (l.take k) ++ wd (l.getD k onil).2.1 ++ ⟨#[32]⟩ ++ (l.getD k onil).2.2 ++ ⟨#[32]⟩ ++ (l.getD k onil).1 ++ ⟨#[10]⟩ := by
  apply WideShapes.bytes_inj
  rw [show (trB (l.take (k + 1))).data.toList = trL (l.take (k + 1)) from rfl, trL_take l k h]
  simp only [ByteArray.data_append, Array.toList_append]
  show _ = trL (l.take k) ++ _ ++ [32] ++ _ ++ [32] ++ _ ++ [10]
  unfold el
  simp
end Go.Proofs.YtijphomojljckaaGreatDoor.Te
/- The contract of the program's writeTree. No statement is proved here. -/
namespace Go.Proofs.YtijphomojljckaaGreatDoor.Te
open Go.ChangeShapes Go.WideShapes Go.ChangeAt Go.RowKit

/-- Entries that are right, each by itself. -/
def Fine (l : List Ob) : Prop := ∀ k, k < l.length → ef (l.getD k onil).1 (l.getD k onil).2.1 (l.getD k onil).2.2 = 0
theorem ef_zero {x0 : ByteArray} {x1 : Int} {x2 : ByteArray} (h : ef x0 x1 x2 = 0) : nf x0 = 0 ∧ inB x1 1 3 = true ∧ isOf (ek x1) x2 = true := by
  by_cases h0 : nf x0 = 0
  · cases hin : inB x1 1 3 with
    | false => rw [ef_mode h0 hin] at h; omega
    | true =>
      cases hb : isOf (ek x1) x2 with
      | false => rw [ef_id h0 hin hb] at h; omega
      | true => exact ⟨h0, rfl, rfl⟩
  · rw [ef_name h0] at h; exact absurd h h0
theorem nf_size {s : ByteArray} (h : nf s = 0) : s.size ≤ 12 := by
  by_cases h1 : 12 < s.size
  · rw [nf_long h1] at h; omega
  · omega
theorem isOf_size {k : Int} {id : ByteArray} (h : isOf k id = true) : id.size = 5 := by
  unfold isOf at h
  cases hb : idB id.data.toList with
  | false => rw [hb] at h; cases h
  | true =>
    obtain ⟨a, b, c, d, e, rfl⟩ := id5 hb
    rfl
theorem wd_size (m : Int) : (wd m).size ≤ 4 := by
  unfold wd
  split
  · decide
  · split <;> decide
theorem el_len {o : Ob} (h : ef o.1 o.2.1 o.2.2 = 0) : (el o).length ≤ 24 := by
  obtain ⟨h0, _, h2⟩ := ef_zero h
  have a := nf_size h0
  have b := isOf_size h2
  have c := wd_size o.2.1
  unfold el
  simp only [List.length_append, List.length_cons, Array.length_toList, List.length_nil]
  have e1 : o.1.data.size = o.1.size := rfl
  have e2 : o.2.2.data.size = o.2.2.size := rfl
  have e3 : (wd o.2.1).data.size = (wd o.2.1).size := rfl
  omega
theorem tr_len {l : List Ob} : ∀ k, k ≤ l.length → (∀ j, j < k → ef (l.getD j onil).1 (l.getD j onil).2.1 (l.getD j onil).2.2 = 0) → (trL (l.take k)).length ≤ 24 * k
  | 0, _, _ => by simp [trL]
  | k + 1, h, hf => by
    have ih := tr_len k (by omega) (fun j hj => hf j (by omega))
    rw [trL_take l k (by omega), List.length_append]
    have := el_len (hf k (by omega))
    omega
theorem trB_size {l : List Ob} (k : Nat) : (trB (l.take k)).size = (trL (l.take k)).length := by
  unfold trB
  show (trL (l.take k)).toArray.size = _
  simp
/-- The fault of the entry at a place; the first fault of a list. -/
def leT (a b : ByteArray) : Bool := Op.bytesLess a.toList b.toList || a.toList == b.toList
def teF (l : List Ob) (k : Nat) : Int :=
  if ef (l.getD k onil).1 (l.getD k onil).2.1 (l.getD k onil).2.2 = 0 then (if 0 < k ∧ leT (l.getD k onil).1 (l.getD (k - 1) onil).1 = true then 1 else 0) else ef (l.getD k onil).1 (l.getD k onil).2.1 (l.getD k onil).2.2
def trE (l : List Ob) : Int := if 100 < l.length then 2 else (((List.range l.length).map (teF l)).find? (fun x => decide (x ≠ 0))).getD 0
theorem trE_many {l : List Ob} (h : 100 < l.length) : trE l = 2 := if_pos h
theorem trE_bad {l : List Ob} {k : Nat} (h : ¬ 100 < l.length) (hk : k < l.length) (h0 : ∀ j, j < k → teF l j = 0) (hb : ¬ teF l k = 0) : trE l = teF l k := by
  unfold trE
  rw [if_neg h]
  have : ((List.range l.length).map (teF l)).find? (fun x => decide (x ≠ 0)) = some (teF l k) := by
    rw [List.find?_eq_some_iff_getElem]
    refine ⟨by simp [hb], k, by simp [hk], by simp, fun j hj => ?_⟩
    simp [h0 j hj]
  rw [this]; rfl
theorem trE_ok {l : List Ob} (h : ¬ 100 < l.length) (h0 : ∀ j, j < l.length → teF l j = 0) : trE l = 0 := by
  unfold trE
  rw [if_neg h]
  have : ((List.range l.length).map (teF l)).find? (fun x => decide (x ≠ 0)) = none := by
    rw [List.find?_eq_none]
    intro x hx
    obtain ⟨j, hj, rfl⟩ := List.mem_map.1 hx
    simp [h0 j (List.mem_range.1 hj)]
  rw [this]; rfl
theorem teF_ef {l : List Ob} {k : Nat} (h : teF l k = 0) : ef (l.getD k onil).1 (l.getD k onil).2.1 (l.getD k onil).2.2 = 0 := by
  unfold teF at h
  by_cases e : ef (l.getD k onil).1 (l.getD k onil).2.1 (l.getD k onil).2.2 = 0
  · exact e
  · rw [if_neg e] at h; exact absurd h e
/-- The words of modes, as the program keeps them. -/
def MwG (w : World) : Prop := w.cell? ⟨0, 0, none⟩ = some (.string ⟨#[102, 105, 108, 101]⟩) ∧ w.cell? ⟨0, 1, none⟩ = some (.string ⟨#[114, 117, 110]⟩) ∧ w.cell? ⟨0, 2, none⟩ = some (.string ⟨#[116, 114, 101, 101]⟩)
theorem MwG.below {B : Nat} {w w' : World} (h : MwG w) (hb : Below B w w') (hB : 0 < B) : MwG w' :=
  ⟨(hb.cell (p := ⟨0, 0, none⟩) hB).trans h.1, (hb.cell (p := ⟨0, 1, none⟩) hB).trans h.2.1, (hb.cell (p := ⟨0, 2, none⟩) hB).trans h.2.2⟩
/-- The line of an entry is the line of its words. -/
theorem wl_el (o : Ob) : wl [wd o.2.1, o.2.2, o.1] = el o := by
  unfold wl jnB el
  show (jl [wd o.2.1, o.2.2, o.1] 2) ++ [10] = _
  simp [jl]
theorem ss3 (w : World) (x y z : ByteArray) (hx : x.size ≤ 1048576) (hy : y.size ≤ 1048576) (hz : z.size ≤ 1048576) : SS (w.alloc (.cells #[.string x, .string y, .string z] 9)) (some ⟨w.heap.size, 0, none⟩) [x, y, z] := by
  refine ⟨?_, ?_⟩
  · intro k hk
    match k, hk with
    | 0, _ => show x.size ≤ _; omega
    | 1, _ => show y.size ≤ _; omega
    | 2, _ => show z.size ≤ _; omega
  · intro k hk
    refine ⟨w.heap.size, 0, rfl, by simp, ?_⟩
    match k, hk with
    | 0, _ => exact Rs.new w #[.string x, .string y, .string z] _ 0 _ rfl
    | 1, _ => exact Rs.new w #[.string x, .string y, .string z] _ 1 _ rfl
    | 2, _ => exact Rs.new w #[.string x, .string y, .string z] _ 2 _ rfl
end Go.Proofs.YtijphomojljckaaGreatDoor.Te
