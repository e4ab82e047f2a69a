/- NormalText of the program: Itoa, sized, normalChunk. No statement is proved here. -/
import Derived.Test.YtmmccpdaklkciaaGreatDoorRows
import Derived.Test.YtmmccpdaklkciaaGreatDoorLemQ
import Derived.Test.YtmmccpdaklkciaaGreatDoorLFLemQ
import Derived.Test.YtmmccpdaklkciaaGreatDoorDTabQ
import Derived.Test.YtmmccpdaklkciaaGreatDoorHkTQ
import Derived.Test.YtmmccpdaklkciaaGreatDoorFpSQ
import Derived.Test.YtmmccpdaklkciaaGreatDoorShelfCQ
import Derived.Test.YtmmccpdaklkciaaGreatDoorCkLQ
import Derived.Test.YtmmccpdaklkciaaGreatDoorMxIQ
import Derived.Test.YtmmccpdaklkciaaGreatDoorTvMQ
import Derived.WalkKit
import Derived.ProofKit
import Derived.Below
import Derived.WalkSpells
import Derived.Laws.Concat
import Derived.Lib.LaidTab
import Derived.Lib.ItoaNum
import Derived.Maps.AppendAt
set_option linter.unusedVariables false
namespace Go.Proofs.YtmmccpdaklkciaaGreatDoor.No
open Go.RowKit Go.Sort
/-- strconv's table, as the program has it. -/
def TaG (w : World) : Prop := Lib.TabIs Tryz.prog w "internal/strconv.uint64pow10" .u64 Lib.pow10Tab
theorem gTa : Tryz.prog.globalNamed "internal/strconv.uint64pow10" = some 3 := by kernel_rfl
theorem TaG.below {B : Nat} {w w' : World} (h : TaG w) (hb : Below B w w') (hB : 3 < B) : TaG w' := by
  unfold TaG Lib.TabIs World.var? at *
  rw [gTa] at h ⊢
  simp only [Option.bind_some] at h ⊢
  rw [hb.block _ hB]
  exact h
theorem belGrow (w : World) (q : Nat) (os : Array Obj) : Below w.heap.size w (grow (w.drewN q) os) :=
  ⟨rfl, rfl, rfl, by show w.heap.size ≤ (w.heap ++ os).size; simp, fun k hk => by show (w.heap ++ os)[k]? = w.heap[k]?; simp [Array.getElem?_append, hk]⟩
theorem it_dec (n : Nat) : (⟨(Lib.itoa (n : Int)).toArray⟩ : ByteArray) = decB n := by
  unfold decB
  have e : Lib.itoa (n : Int) = Lib.decDigits n := by
    unfold Lib.itoa
    rw [if_neg (by omega)]
    simp
  rw [e]
theorem itoaC (n : Nat) (w : World) (h : n < 10000) (ht : TaG w) :
    Calls Tryz.prog 226 #[.int .i64 (n : Int)] w fun e w' => e = .returned (.string (decB n)) ∧ Below w.heap.size w w' := by
  refine (Tryz.strconv_Itoa (n : Int) (by omega) (by omega) w ht).mono ?_
  rintro e w' ⟨rfl, q, os, rfl⟩
  exact ⟨by rw [it_dec], belGrow _ _ _⟩
theorem getD_map {α : Type} (l : List α) (f : α → Value) (k : Nat) (h : k < l.length) : (l.map f)[k]? = some (f l[k]) := by simp [h]
theorem ss_lit (w : World) (xs : List ByteArray) (t : TypeId) (hx : ∀ x ∈ xs, x.size ≤ 9223372036854775807) : SS (w.alloc (.cells (xs.map Value.string).toArray t)) (some ⟨w.heap.size, 0, none⟩) xs := by
  refine ⟨fun k hk => ?_, fun k hk => ?_⟩
  · rw [getD_at _ k hk]; exact hx _ (List.getElem_mem hk)
  · refine ⟨w.heap.size, 0, rfl, by simp, ?_⟩
    rw [Nat.zero_add, getD_at _ k hk]
    exact Rs.new w _ t k _ (getD_map xs Value.string k hk)
/-- The words of a line of sizes. -/
def wds (m : ByteArray) (ts : List ByteArray) : List ByteArray := m :: ts.map fun t => decB t.size
def szT (m : ByteArray) (ts : List ByteArray) : ByteArray := catB [jnB (wds m ts), ⟨#[10]⟩, catB ts]
theorem szT_one (x : ByteArray) : szT ⟨#[61]⟩ [x] = nk1 x := by
  apply bytes_ext
  show catL _ = _
  have e : (jnB (wds ⟨#[61]⟩ [x])).data.toList = [61] ++ (32 :: (decB x.size).data.toList) := rfl
  unfold nk1 szN
  simp [catL, catB, e, ByteArray.data_append]
theorem szT_three (x o y : ByteArray) : szT ⟨#[33]⟩ [x, o, y] = nk3 x o y := by
  apply bytes_ext
  show catL _ = _
  have e : (jnB (wds ⟨#[33]⟩ [x, o, y])).data.toList = (([33] ++ (32 :: (decB x.size).data.toList)) ++ (32 :: (decB o.size).data.toList)) ++ (32 :: (decB y.size).data.toList) := rfl
  unfold nk3 szN
  simp [catL, catB, e, ByteArray.data_append]
theorem wds_snoc (m : ByteArray) (ts : List ByteArray) (k : Nat) (h : k < ts.length) : wds m (ts.take (k + 1)) = wds m (ts.take k) ++ [decB (ts.getD k ByteArray.empty).size] := by
  unfold wds
  rw [List.take_succ_eq_append_getElem h, List.map_append, getD_at _ k h]
  rfl
theorem tot_le_mul {B : Nat} : ∀ {ss : List ByteArray}, (∀ t ∈ ss, t.size ≤ B) → tot ss ≤ (B : Int) * ss.length := by
  intro ss
  induction ss with
  | nil => intro _; simp [tot]
  | cons s ss ih =>
    intro h
    have h1 := h s (by simp)
    have h2 := ih (fun t ht => h t (by simp [ht]))
    have e : tot (s :: ss) = (s.size : Int) + tot ss := by simp [tot]
    have e2 : ((s :: ss).length : Int) = (ss.length : Int) + 1 := by simp
    rw [e, e2, Int.mul_add, Int.mul_one]
    omega
theorem infoStr : (Tryz.prog.info? 9).map (fun i => (i.zero, i.size, i.bytes)) = some (some (.string ⟨#[]⟩), 1, 16) := by kernel_rfl
set_option maxRecDepth 20000 in
set_option maxHeartbeats 4000000 in
theorem sizedC (m : ByteArray) (a : Option Addr) (c : Nat) (ts : List ByteArray) (w : World) (hs : SS w a ts) (h1 : 1 ≤ ts.length) (h3 : ts.length ≤ 3) (ht : ∀ t ∈ ts, t.size ≤ 2000) (hm : m.size ≤ 10) (hT : TaG w) (hg : 3 < w.heap.size) :
    Calls Tryz.prog 196 #[.string m, .slice a ts.length c] w fun e w' => e = .returned (.string (szT m ts)) ∧ Below w.heap.size w w' := by
  obtain ⟨i0, hi, hz0, hz1, hz2⟩ := info_parts infoStr
  obtain ⟨W1, hW1⟩ : ∃ W, w.alloc (.cells #[.string m] 9) = W := ⟨_, rfl⟩
  have b1 : Below w.heap.size w W1 := by rw [← hW1]; exact allocBelow _ _
  have o1 : W1.ownsRow w.heap.size 9 1 (.slice (some ⟨w.heap.size, 0, none⟩) 1 1) 1 ((wds m (ts.take 0)).map Value.string) := by rw [← hW1]; exact World.ownsRow_lit w #[.string m] 1 (Nat.le_refl _) (by unfold maxLen; omega) rfl
  have z1 : W1.heap.size = w.heap.size + 1 := by rw [← hW1]; simp
  go_enter Tryz.func196, Tryz.ntmps196
  go_wp2
  clear hW1
  go_loopw [5, 7, 12] (fun v _ i wr => ∃ k : Nat, k ≤ ts.length ∧ i = .int .i64 k ∧ wr.ownsRow w.heap.size 9 1 v (k + 1) ((wds m (ts.take k)).map Value.string) ∧ Below w.heap.size w wr ∧ w.heap.size < wr.heap.size) (fun _ _ i _ => ts.length - (intOf i).toNat)
  case atStart => exact ⟨0, Nat.zero_le _, rfl, o1, b1, by omega⟩
  case round =>
    obtain ⟨k, hk, rfl, hO, bel, zr⟩ := hrel
    obtain ⟨va, vc, hv⟩ := shapeS hO
    subst hv
    clear o1 b1 z1
    by_cases hlt : k < ts.length
    · have qk : (k : Int) < (ts.length : Int) := by omega
      obtain ⟨g, off, e, hgl, d0⟩ := (hs.below bel).2 k hlt
      subst e
      have hx := ht _ (by rw [getD_at _ k hlt]; exact List.getElem_mem hlt : ts.getD k ByteArray.empty ∈ ts)
      have HW : Hid ((wds m (ts.take (k + 1))).map Value.string = (wds m (ts.take k)).map Value.string ++ [.string (decB (ts.getD k ByteArray.empty).size)]) := by
        show _ = _
        rw [wds_snoc m ts k hlt, List.map_append]
        rfl
      obtain ⟨x, hxe⟩ : ∃ x, ts.getD k ByteArray.empty = x := ⟨_, rfl⟩
      rw [hxe] at d0 hx HW
      have hIt := itoaC x.size wr (by omega) (hT.below bel hg)
      generalize decB x.size = D at HW hIt
      clear hxe
      go_wp2_with fail
      refine hIt.mono ?_; rintro e w2 ⟨rfl, b2⟩
      have B2 : Below w.heap.size w w2 := bel.trans (b2.mono bel.size)
      have z2 := b2.size
      have OU := hO.kept (grownOfBelow b2 none) (blockCases _ _ fun _ _ e => by cases e)
      have hvb : ∀ j, (Value.slice va (k + 1) vc).ownBlock = some j → w.heap.size ≤ j := fun j hj => (OU.lt j hj).1
      clear hIt hO b2 bel d0
      go_wp2_with (at_builtin; refine wpList_append_own_at _ rfl (.tmp 16) (.tmp 20) 100 rfl w.heap.size 9 i0 (.string ⟨#[]⟩) 1 16 Tryz.underlying100 hi hz0 hz1 hz2 rfl (by decide) _ _ _ rfl (OU.alloc _) ⟨w2.heap.size, 0, none⟩ 1 1 [.string D] rfl rfl (cell_one_new _ _ _) (by simp [Value.oneCell']) (by unfold maxLen; omega) (by omega) (by simp; omega) ?_; intro v5 w5 o5 g5 _ k5)
      have B5 : Below w.heap.size w w5 := (B2.alloc (by omega) _).grown g5 (by simp; omega) hvb
      have z5 := g5.size
      rw [← HW.out] at o5
      have z6 : w2.heap.size < (w2.alloc (.cells #[.string D] 9)).heap.size := by simp
      clear g5 k5 OU B2
      try go_wp2
      go_roundw
      case rel => exact ⟨k + 1, by omega, by go_num, o5, B5, by omega⟩
      case measure => first | (simp [intOf]; omega) | simp [intOf]
    · have ek : ts.take k = ts := List.take_of_length_le (by omega)
      have hkl : k = ts.length := by omega
      subst hkl
      rw [ek] at hO
      have qk : ¬ (ts.length : Int) < (ts.length : Int) := by omega
      have hwl : (wds m ts).length = ts.length + 1 := by simp [wds]
      have hn1 : ts.length + 1 = (wds m ts).length := hwl.symm
      have hO' : wr.ownsRow w.heap.size 9 1 (.slice va (wds m ts).length vc) (wds m ts).length ((wds m ts).map Value.string) := by rw [← hn1]; exact hO
      clear hO hn1
      have hml : ∀ t ∈ wds m ts, t.size ≤ 10 := fun t hh => by
        unfold wds at hh
        rcases List.mem_cons.1 hh with rfl | hh
        · exact hm
        · obtain ⟨u, hu, rfl⟩ := List.mem_map.1 hh
          have := decB_size (n := u.size) (by have := ht u hu; omega)
          omega
      have htw : tot (wds m ts) ≤ 100 := by
        have := tot_le_mul hml
        rw [hwl] at this
        omega
      have hcap := (own_cap hO').1
      have hSS := ownSS hO' (fun j hj => by rw [getD_at _ j hj]; have := hml _ (List.getElem_mem hj); omega)
      obtain ⟨g, hge⟩ : ∃ g, va = some ⟨g, 0, none⟩ := by
        rcases hO'.2 with ⟨e, h0⟩ | ⟨g, cap, cur, e, _⟩
        · omega
        · simp only [Value.slice.injEq] at e
          exact ⟨g, e.1⟩
      subst hge
      have hJ := joinC g 0 vc (wds m ts) wr hSS (by omega) hcap (by omega) (by omega)
      rw [hwl] at hJ
      have htt : tot ts ≤ 6000 := by
        have := tot_le_mul (B := 2000) ht
        have : (ts.length : Int) ≤ 3 := by omega
        have : (2000 : Int) * ts.length ≤ 2000 * 3 := by omega
        omega
      have HZ : Hid (szT m ts = catB [jnB (wds m ts), ⟨#[10]⟩, catB ts]) := rfl
      have hJs : (jnB (wds m ts)).size ≤ 200 := by
        have := jl_len (wds m ts) ((wds m ts).length - 1) (by omega)
        have e : (jnB (wds m ts)).size = (jl (wds m ts) ((wds m ts).length - 1)).length := rfl
        rw [show (wds m ts).length - 1 + 1 = (wds m ts).length by omega, List.take_length] at this
        omega
      have hCs : (catB ts).size ≤ 6000 := by have := catB_size ts; omega
      generalize jnB (wds m ts) = J at hJ HZ hJs
      clear hcap hSS hO' hml htw
      go_wp2_with fail
      refine hJ.mono ?_; rintro e w2 ⟨rfl, b2⟩
      have B2 : Below w.heap.size w w2 := bel.trans (b2.mono bel.size)
      have hC := Jd.joinedC a c ts w2 (hs.below B2) (by omega) (by omega)
      have z2 := b2.size
      generalize catB ts = X at hC HZ hCs
      clear hJ b2 bel
      go_wp2_with fail
      refine hC.mono ?_; rintro e w3 ⟨rfl, b3⟩
      have B3 : Below w.heap.size w w3 := B2.trans (b3.mono B2.size)
      obtain ⟨W4, hW4⟩ : ∃ W, w3.alloc (.cells #[.string J, .string ⟨#[10]⟩, .string X] 9) = W := ⟨_, rfl⟩
      have b4 : Below w3.heap.size w3 W4 := by rw [← hW4]; exact allocBelow _ _
      have hS4 : SS W4 (some ⟨w3.heap.size, 0, none⟩) [J, ⟨#[10]⟩, X] := by
        rw [← hW4]
        refine ss_lit w3 [J, ⟨#[10]⟩, X] 9 ?_
        intro x hx
        have e10 : (⟨#[10]⟩ : ByteArray).size = 1 := rfl
        simp only [List.mem_cons, List.not_mem_nil, or_false] at hx
        rcases hx with rfl | rfl | rfl <;> omega
      have hJ4 := Jd.joinedC (some ⟨w3.heap.size, 0, none⟩) 3 [J, ⟨#[10]⟩, X] W4 hS4 (by simp) (by
        have e10 : (⟨#[10]⟩ : ByteArray).size = 1 := rfl
        simp [tot, e10]; omega)
      rw [← HZ.out] at hJ4
      have B4 : Below w.heap.size w W4 := B3.trans (b4.mono B3.size)
      clear hC b3 B2 B3 b4 hS4
      go_wp2_with fail
      refine hJ4.mono ?_; rintro e w5 ⟨rfl, b5⟩
      have B5 : Below w.heap.size w w5 := B4.trans (b5.mono B4.size)
      clear hJ4 B4 b5 hW4
      go_wp2
      go_ret
      exact ⟨rfl, B5⟩
theorem ret_str {s t : ByteArray} (h : s = t) : Ending.returned (.string s) = .returned (.string t) := by rw [h]
set_option maxRecDepth 20000 in
set_option maxHeartbeats 4000000 in
theorem normalChunkC (x0 : Int) (a1 a2 a3 : Option Addr) (c1 c2 c3 : Nat) (s1 s2 s3 : List ByteArray) (w : World) (S1 : SS w a1 s1) (S2 : SS w a2 s2) (S3 : SS w a3 s3) (t1 : tot s1 ≤ 2000) (t2 : tot s2 ≤ 2000) (t3 : tot s3 ≤ 2000) (l1 : s1.length ≤ 1048576) (l2 : s2.length ≤ 1048576) (l3 : s3.length ≤ 1048576) (hT : TaG w) (hg : 3 < w.heap.size) :
    Calls Tryz.prog 171 #[.agg #[.int .i64 x0, .slice a1 s1.length c1, .slice a2 s2.length c2, .slice a3 s3.length c3]] w fun e w' => e = .returned (.string (nkT (x0, s1, s2, s3))) ∧ Below w.heap.size w w' := by
  obtain ⟨W1, hW1⟩ : ∃ W, w.alloc (.cells #[.int .i64 x0, .slice a1 s1.length c1, .slice a2 s2.length c2, .slice a3 s3.length c3] 209) = W := ⟨_, rfl⟩
  have b1 : Below w.heap.size w W1 := by rw [← hW1]; exact allocBelow _ _
  have r1 : Rf W1 w.heap.size [.int .i64 x0, .slice a1 s1.length c1, .slice a2 s2.length c2, .slice a3 s3.length c3] := by rw [← hW1]; exact Rf.new _ _ _
  have z1 : W1.heap.size = w.heap.size + 1 := by rw [← hW1]; simp
  have e0 := r1.at_ 0 _ rfl
  have e1 := r1.at_ 1 _ rfl
  have e2 := r1.at_ 2 _ rfl
  have e3 := r1.at_ 3 _ rfl
  by_cases h4 : x0 = 4
  · subst h4
    have M1 := S1.below b1
    have M2 := S2.below b1
    have M3 := S3.below b1
    have k1 := cat_bd t1
    have k2 := cat_bd t2
    have k3 := cat_bd t3
    have hJ2 : Hid (∀ W, Below W1.heap.size W1 W → Calls Tryz.prog 172 #[.slice a2 s2.length c2] W fun e w' => e = .returned (.string (catB s2)) ∧ Below W.heap.size W w') := fun W b => Jd.joinedC a2 c2 s2 W (M2.below b) l2 (by omega)
    have hJ3 : Hid (∀ W, Below W1.heap.size W1 W → Calls Tryz.prog 172 #[.slice a3 s3.length c3] W fun e w' => e = .returned (.string (catB s3)) ∧ Below W.heap.size W w') := fun W b => Jd.joinedC a3 c3 s3 W (M3.below b) l3 (by omega)
    have hJ1 : Hid (∀ W, Below W1.heap.size W1 W → Calls Tryz.prog 172 #[.slice a1 s1.length c1] W fun e w' => e = .returned (.string (catB s1)) ∧ Below W.heap.size W w') := fun W b => Jd.joinedC a1 c1 s1 W (M1.below b) l1 (by omega)
    have HN : Hid (nkT (4, s1, s2, s3) = if lsB (catB s3) (catB s2) = true then nk3 (catB s3) (catB s1) (catB s2) else nk3 (catB s2) (catB s1) (catB s3)) := rfl
    generalize catB s1 = X1 at hJ1 HN k1
    generalize catB s2 = X2 at hJ2 HN k2
    generalize catB s3 = X3 at hJ3 HN k3
    have BD : Below W1.heap.size W1 W1.drew := (Below.refl _ _).drew
    have E1 := e1
    have E2 := e2
    have E3 := e3
    clear M1 M2 M3
    go_enter Tryz.func171, Tryz.ntmps171
    go_upto_region 3 with fail
    go_region_held (fun W' => W'.cell? ⟨w.heap.size, 2, none⟩ = some (.slice a2 s2.length c2) ∧ W'.cell? ⟨w.heap.size, 3, none⟩ = some (.slice a3 s3.length c3) ∧ W'.cell? ⟨w.heap.size, 1, none⟩ = some (.slice a1 s1.length c1)) (first | with_reducible exact ⟨E2, E3, E1⟩ | exact ⟨E2, E3, E1⟩)
      ((go_at_call 172; (first | with_reducible refine (hJ2.out _ BD).mono ?_ | with_reducible refine (hJ3.out _ BD).mono ?_); rintro e w' ⟨rfl, b⟩; have E1 := zcK b E1; have E2 := zcK b E2; have E3 := zcK b E3; have sb := BD.size; have BD := below_step BD (by omega) b; clear b))
    all_goals
      cases hls : lsB X3 X2 with
      | true =>
        have hl2 : Op.bytesLess X3.toList X2.toList = true := hls
        have HN' : Hid (nkT (4, s1, s2, s3) = nk3 X3 X1 X2) := by show _ = _; rw [HN.out, hls]; rfl
        clear hls
        go_wp2_with fail
        with_reducible refine (hJ1.out _ BD).mono ?_
        rintro e w3 ⟨rfl, b3⟩
        have s3' := BD.size
        have BD3 := below_step BD (by omega) b3
        have B3 : Below w.heap.size w w3 := b1.trans (BD3.mono b1.size)
        have z3 := BD3.size
        obtain ⟨W4, hW4⟩ : ∃ W, w3.alloc (.cells #[.string X3, .string X1, .string X2] 9) = W := ⟨_, rfl⟩
        have b4 : Below w3.heap.size w3 W4 := by rw [← hW4]; exact allocBelow _ _
        have z4 := b4.size
        have hS4 : SS W4 (some ⟨w3.heap.size, 0, none⟩) [X3, X1, X2] := by
          rw [← hW4]
          refine ss_lit w3 [X3, X1, X2] 9 ?_
          intro x hx
          simp only [List.mem_cons, List.not_mem_nil, or_false] at hx
          rcases hx with rfl | rfl | rfl <;> omega
        have B4 : Below w.heap.size w W4 := B3.trans (b4.mono B3.size)
        have hZ := sizedC ⟨#[33]⟩ (some ⟨w3.heap.size, 0, none⟩) 3 [X3, X1, X2] W4 hS4 (by simp) (by simp) (fun t ht => by
          simp only [List.mem_cons, List.not_mem_nil, or_false] at ht
          rcases ht with rfl | rfl | rfl <;> omega) (by decide) (hT.below B4 hg) (by omega)
        rw [szT_three] at hZ
        have hZ' : Calls Tryz.prog 196 #[.string ⟨#[33]⟩, .slice (some ⟨w3.heap.size, 0, none⟩) 3 3] W4 fun e w' => e = .returned (.string (nk3 X3 X1 X2)) ∧ Below W4.heap.size W4 w' := hZ
        generalize nk3 X3 X1 X2 = Y at hZ' HN'
        clear hZ b3 BD BD3 B3 b4 hS4 E1 E2 E3 HN hJ1 hJ2 hJ3
        go_wp2_with fail
        with_reducible refine hZ'.mono ?_
        rintro e w5 ⟨rfl, b5⟩
        have B5 : Below w.heap.size w w5 := B4.trans (b5.mono B4.size)
        clear hZ' B4 b5 hW4
        go_wp2
        go_ret
        exact ⟨ret_str HN'.out.symm, B5⟩
      | false =>
        have hl2 : Op.bytesLess X3.toList X2.toList = false := hls
        have HN' : Hid (nkT (4, s1, s2, s3) = nk3 X2 X1 X3) := by show _ = _; rw [HN.out, hls]; rfl
        clear hls
        go_wp2_with fail
        with_reducible refine (hJ1.out _ BD).mono ?_
        rintro e w3 ⟨rfl, b3⟩
        have s3' := BD.size
        have BD3 := below_step BD (by omega) b3
        have B3 : Below w.heap.size w w3 := b1.trans (BD3.mono b1.size)
        have z3 := BD3.size
        obtain ⟨W4, hW4⟩ : ∃ W, w3.alloc (.cells #[.string X2, .string X1, .string X3] 9) = W := ⟨_, rfl⟩
        have b4 : Below w3.heap.size w3 W4 := by rw [← hW4]; exact allocBelow _ _
        have z4 := b4.size
        have hS4 : SS W4 (some ⟨w3.heap.size, 0, none⟩) [X2, X1, X3] := by
          rw [← hW4]
          refine ss_lit w3 [X2, X1, X3] 9 ?_
          intro x hx
          simp only [List.mem_cons, List.not_mem_nil, or_false] at hx
          rcases hx with rfl | rfl | rfl <;> omega
        have B4 : Below w.heap.size w W4 := B3.trans (b4.mono B3.size)
        have hZ := sizedC ⟨#[33]⟩ (some ⟨w3.heap.size, 0, none⟩) 3 [X2, X1, X3] W4 hS4 (by simp) (by simp) (fun t ht => by
          simp only [List.mem_cons, List.not_mem_nil, or_false] at ht
          rcases ht with rfl | rfl | rfl <;> omega) (by decide) (hT.below B4 hg) (by omega)
        rw [szT_three] at hZ
        have hZ' : Calls Tryz.prog 196 #[.string ⟨#[33]⟩, .slice (some ⟨w3.heap.size, 0, none⟩) 3 3] W4 fun e w' => e = .returned (.string (nk3 X2 X1 X3)) ∧ Below W4.heap.size W4 w' := hZ
        generalize nk3 X2 X1 X3 = Y at hZ' HN'
        clear hZ b3 BD BD3 B3 b4 hS4 E1 E2 E3 HN hJ1 hJ2 hJ3
        go_wp2_with fail
        with_reducible refine hZ'.mono ?_
        rintro e w5 ⟨rfl, b5⟩
        have B5 : Below w.heap.size w w5 := B4.trans (b5.mono B4.size)
        clear hZ' B4 b5 hW4
        go_wp2
        go_ret
        exact ⟨ret_str HN'.out.symm, B5⟩
  · have q4 : (x0 != 4) = true := by simp [h4]
    by_cases h2 : x0 = 2
    · subst h2
      have hTk := takenLines 2 a1 a2 a3 s1.length s2.length s3.length c1 c2 c3 W1
      rw [if_pos rfl] at hTk
      have HN : Hid (nkT (2, s1, s2, s3) = nk1 (catB s3)) := nkT_theirs rfl
      have kx := cat_bd t3
      go_enter Tryz.func171, Tryz.ntmps171
      go_wp2_with fail
      refine hTk.mono ?_; rintro e w2 ⟨rfl, b2⟩
      have B2 : Below w.heap.size w w2 := b1.trans (b2.mono b1.size)
      have hJ := Jd.joinedC a3 c3 s3 w2 (S3.below B2) l3 (by omega)
      have z2 := b2.size
      generalize catB s3 = X at hJ HN kx
      clear hTk b2 e0 e1 e2 e3
      go_wp2_with fail
      refine hJ.mono ?_; rintro e w3 ⟨rfl, b3⟩
      have B3 : Below w.heap.size w w3 := B2.trans (b3.mono B2.size)
      have z3 := b3.size
      obtain ⟨W4, hW4⟩ : ∃ W, w3.alloc (.cells #[.string X] 9) = W := ⟨_, rfl⟩
      have b4 : Below w3.heap.size w3 W4 := by rw [← hW4]; exact allocBelow _ _
      have z4 := b4.size
      have hS4 : SS W4 (some ⟨w3.heap.size, 0, none⟩) [X] := by
        rw [← hW4]
        refine ss_lit w3 [X] 9 ?_
        intro x hx
        rw [List.mem_singleton.1 hx]; omega
      have B4 : Below w.heap.size w W4 := B3.trans (b4.mono B3.size)
      have hZ := sizedC ⟨#[61]⟩ (some ⟨w3.heap.size, 0, none⟩) 1 [X] W4 hS4 (by simp) (by simp) (fun t ht => by rw [List.mem_singleton.1 ht]; exact kx) (by decide) (hT.below B4 hg) (by omega)
      rw [szT_one] at hZ
      have hZ' : Calls Tryz.prog 196 #[.string ⟨#[61]⟩, .slice (some ⟨w3.heap.size, 0, none⟩) 1 1] W4 fun e w' => e = .returned (.string (nk1 X)) ∧ Below W4.heap.size W4 w' := hZ
      generalize nk1 X = Y at hZ' HN
      clear hJ hZ b3 B2 B3 b4 hS4
      go_wp2_with fail
      refine hZ'.mono ?_; rintro e w5 ⟨rfl, b5⟩
      have B5 : Below w.heap.size w w5 := B4.trans (b5.mono B4.size)
      clear hZ' B4 b5 hW4
      go_wp2
      go_ret
      exact ⟨ret_str HN.out.symm, B5⟩
    · have qi := h2
      have hTk := takenLines x0 a1 a2 a3 s1.length s2.length s3.length c1 c2 c3 W1
      rw [if_neg h2] at hTk
      have HN : Hid (nkT (x0, s1, s2, s3) = nk1 (catB s2)) := nkT_ours h4 h2
      have kx := cat_bd t2
      go_enter Tryz.func171, Tryz.ntmps171
      go_wp2_with fail
      refine hTk.mono ?_; rintro e w2 ⟨rfl, b2⟩
      have B2 : Below w.heap.size w w2 := b1.trans (b2.mono b1.size)
      have hJ := Jd.joinedC a2 c2 s2 w2 (S2.below B2) l2 (by omega)
      have z2 := b2.size
      generalize catB s2 = X at hJ HN kx
      clear hTk b2 e0 e1 e2 e3
      go_wp2_with fail
      refine hJ.mono ?_; rintro e w3 ⟨rfl, b3⟩
      have B3 : Below w.heap.size w w3 := B2.trans (b3.mono B2.size)
      have z3 := b3.size
      obtain ⟨W4, hW4⟩ : ∃ W, w3.alloc (.cells #[.string X] 9) = W := ⟨_, rfl⟩
      have b4 : Below w3.heap.size w3 W4 := by rw [← hW4]; exact allocBelow _ _
      have z4 := b4.size
      have hS4 : SS W4 (some ⟨w3.heap.size, 0, none⟩) [X] := by
        rw [← hW4]
        refine ss_lit w3 [X] 9 ?_
        intro x hx
        rw [List.mem_singleton.1 hx]; omega
      have B4 : Below w.heap.size w W4 := B3.trans (b4.mono B3.size)
      have hZ := sizedC ⟨#[61]⟩ (some ⟨w3.heap.size, 0, none⟩) 1 [X] W4 hS4 (by simp) (by simp) (fun t ht => by rw [List.mem_singleton.1 ht]; exact kx) (by decide) (hT.below B4 hg) (by omega)
      rw [szT_one] at hZ
      have hZ' : Calls Tryz.prog 196 #[.string ⟨#[61]⟩, .slice (some ⟨w3.heap.size, 0, none⟩) 1 1] W4 fun e w' => e = .returned (.string (nk1 X)) ∧ Below W4.heap.size W4 w' := hZ
      generalize nk1 X = Y at hZ' HN
      clear hJ hZ b3 B2 B3 b4 hS4
      go_wp2_with fail
      refine hZ'.mono ?_; rintro e w5 ⟨rfl, b5⟩
      have B5 : Below w.heap.size w w5 := B4.trans (b5.mono B4.size)
      clear hZ' B4 b5 hW4
      go_wp2
      go_ret
      exact ⟨ret_str HN.out.symm, B5⟩
end Go.Proofs.YtmmccpdaklkciaaGreatDoor.No
