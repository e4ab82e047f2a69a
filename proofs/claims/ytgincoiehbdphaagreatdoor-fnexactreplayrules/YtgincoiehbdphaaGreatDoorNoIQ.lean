/- NormalText of the program: Itoa, sized, normalChunk. No statement is proved here. -/
import Derived.Test.YtgincoiehbdphaaGreatDoorTvMQ
import Derived.Lib.LaidTab
import Derived.Laws.Cover1
set_option linter.unusedVariables false
namespace Go.Proofs.YtgincoiehbdphaaGreatDoor.No
open Go.RowKit Go.Sort
def TaG (w : World) : Prop := Lib.TabIs Tryz.prog w "internal/strconv.uint64pow10" .u64 Lib.pow10Tab
theorem gTa : Tryz.prog.globalNamed "internal/strconv.uint64pow10" = some 3 := by kernel_rfl
theorem TaG.below {B : Nat} {w w' : World} (h : TaG w) (hb : Below B w w') (hB : 3 < B) : TaG w' := by
 unfold TaG Lib.TabIs World.var? at *
 rw [gTa] at h ⊢
 simp only [Option.bind_some] at h ⊢
 rw [hb.block _ hB]
 exact h
theorem belGrow (w : World) (q : Nat) (os : Array Obj) : Below w.heap.size w (grow (w.drewN q) os) :=
 ⟨rfl, rfl, rfl, by show w.heap.size <= (w.heap ++ os).size; simp, fun k hk => by show (w.heap ++ os)[k]? = w.heap[k]?; simp [Array.getElem?_append, hk]⟩
theorem it_dec (n : Nat) : (⟨(Lib.itoa (n : Int)).toArray⟩ : ByteArray) = decB n := by
 unfold decB
 have e : Lib.itoa (n : Int) = Lib.decDigits n := by
  unfold Lib.itoa
  rw [if_neg (by omega)]
  simp
 rw [e]
theorem itoaC (n : Nat) (w : World) (h : n < 10000) (ht : TaG w) :
  Calls Tryz.prog 222 #[.int .i64 (n : Int)] w fun e w' => e = .returned (.string (decB n)) /\ Below w.heap.size w w' := by
 refine (Tryz.strconv_Itoa (n : Int) (by omega) (by omega) w ht).mono ?_
 rintro e w' ⟨rfl, q, os, rfl⟩
 exact ⟨by rw [it_dec], belGrow _ _ _⟩
theorem getD_map {α : Type} (l : List α) (f : α -> Value) (k : Nat) (h : k < l.length) : (l.map f)[k]? = some (f l[k]) := by simp [h]
theorem ss_lit (w : World) (xs : List ByteArray) (t : TypeId) (hx : ∀ x ∈ xs, x.size <= 9223372036854775807) : SS (w.alloc (.cells (xs.map Value.string).toArray t)) (some ⟨w.heap.size, 0, none⟩) xs := by
 refine ⟨fun k hk => ?_, fun k hk => ?_⟩
 ·rw [getD_at _ k hk]; exact hx _ (List.getElem_mem hk)
 ·refine ⟨w.heap.size, 0, rfl, by simp, ?_⟩
  rw [Nat.zero_add, getD_at _ k hk]
  exact Rs.new w _ t k _ (getD_map xs Value.string k hk)
def wds (m : ByteArray) (ts : List ByteArray) : List ByteArray := m :: ts.map fun t => decB t.size
def szT (m : ByteArray) (ts : List ByteArray) : ByteArray := catB [jnB (wds m ts), ⟨#[10]⟩, catB ts]
theorem szT_one (x : ByteArray) : szT ⟨#[61]⟩ [x] = nk1 x := by
 apply bytes_ext
 show catL _ = _
 have e : (jnB (wds ⟨#[61]⟩ [x])).data.toList = [61] ++ (32 :: (decB x.size).data.toList) := rfl
 unfold nk1 szN
 simp [catL, catB, e, ByteArray.data_append]
theorem szT_three (x o y : ByteArray) : szT ⟨#[33]⟩ [x, o, y] = nk3 x o y := by
 apply bytes_ext
 show catL _ = _
 have e : (jnB (wds ⟨#[33]⟩ [x, o, y])).data.toList = (([33] ++ (32 :: (decB x.size).data.toList)) ++ (32 :: (decB o.size).data.toList)) ++ (32 :: (decB y.size).data.toList) := rfl
 unfold nk3 szN
 simp [catL, catB, e, ByteArray.data_append]
theorem wds_snoc (m : ByteArray) (ts : List ByteArray) (k : Nat) (h : k < ts.length) : wds m (ts.take (k + 1)) = wds m (ts.take k) ++ [decB (ts.getD k ByteArray.empty).size] := by
 unfold wds
 rw [List.take_succ_eq_append_getElem h, List.map_append, getD_at _ k h]
 rfl
theorem tot_le_mul {B : Nat} : ∀ {ss : List ByteArray}, (∀ t ∈ ss, t.size <= B) -> tot ss <= (B : Int) * ss.length := by
 intro ss
 induction ss with
 | nil => intro _; simp [tot]
 | cons s ss ih =>
  intro h
  have h1 := h s (by simp)
  have h2 := ih (fun t ht => h t (by simp [ht]))
  have e : tot (s :: ss) = (s.size : Int) + tot ss := by simp [tot]
  have e2 : ((s :: ss).length : Int) = (ss.length : Int) + 1 := by simp
  rw [e, e2, Int.mul_add, Int.mul_one]
  omega
theorem infoStr : (Tryz.prog.info? 9).map (fun i => (i.zero, i.size, i.bytes)) = some (some (.string ⟨#[]⟩), 1, 16) := by kernel_rfl
set_option maxRecDepth 20000 in
set_option maxHeartbeats 4000000 in
theorem sizedC (m : ByteArray) (a : Option Addr) (c : Nat) (ts : List ByteArray) (w : World) (hs : SS w a ts) (h1 : 1 <= ts.length) (h3 : ts.length <= 3) (ht : ∀ t ∈ ts, t.size <= 2000) (hm : m.size <= 10) (hT : TaG w) (hg : 3 < w.heap.size) :
  Calls Tryz.prog 192 #[.string m, .slice a ts.length c] w fun e w' => e = .returned (.string (szT m ts)) /\ Below w.heap.size w w' := by
 obtain ⟨i0, hi, hz0, hz1, hz2⟩ := info_parts infoStr
 obtain ⟨W1, hW1⟩ : ∃ W, w.alloc (.cells #[.string m] 9) = W := ⟨_, rfl⟩
 have b1 : Below w.heap.size w W1 := by rw [<- hW1]; exact allocBelow _ _
 have o1 : W1.ownsRow w.heap.size 9 1 (.slice (some ⟨w.heap.size, 0, none⟩) 1 1) 1 ((wds m (ts.take 0)).map Value.string) := by rw [<- hW1]; exact World.ownsRow_lit w #[.string m] 1 (Nat.le_refl _) (by unfold maxLen; omega) rfl
 have z1 : W1.heap.size = w.heap.size + 1 := by rw [<- hW1]; simp
 go_enter Tryz.func192, Tryz.ntmps192
 go_wp2
 clear hW1
 go_loopw [5, 7, 12] (fun v _ i wr => ∃ k : Nat, k <= ts.length /\ i = .int .i64 k /\ wr.ownsRow w.heap.size 9 1 v (k + 1) ((wds m (ts.take k)).map Value.string) /\ Below w.heap.size w wr /\ w.heap.size < wr.heap.size) (fun _ _ i _ => ts.length - (intOf i).toNat)
 case atStart => exact ⟨0, Nat.zero_le _, rfl, o1, b1, by omega⟩
 case round =>
  obtain ⟨k, hk, rfl, hO, bel, zr⟩ := hrel
  obtain ⟨va, vc, hv⟩ := shapeS hO
  subst hv
  clear o1 b1 z1
  by_cases hlt : k < ts.length
  ·have qk : (k : Int) < (ts.length : Int) := by omega
   obtain ⟨g, off, e, hgl, d0⟩ := (hs.below bel).2 k hlt
   subst e
   have hx := ht _ (by rw [getD_at _ k hlt]; exact List.getElem_mem hlt : ts.getD k ByteArray.empty ∈ ts)
   have HW : Hid ((wds m (ts.take (k + 1))).map Value.string = (wds m (ts.take k)).map Value.string ++ [.string (decB (ts.getD k ByteArray.empty).size)]) := by
    show _ = _
    rw [wds_snoc m ts k hlt, List.map_append]
    rfl
   obtain ⟨x, hxe⟩ : ∃ x, ts.getD k ByteArray.empty = x := ⟨_, rfl⟩
   rw [hxe] at d0 hx HW
   have hIt := itoaC x.size wr (by omega) (hT.below bel hg)
   generalize decB x.size = D at HW hIt
   clear hxe
   go_wp2_with fail
   refine hIt.mono ?_; rintro e w2 ⟨rfl, b2⟩
   have B2 : Below w.heap.size w w2 := bel.trans (b2.mono bel.size)
   have z2 := b2.size
   have OU := hO.kept (grownOfBelow b2 none) (blockCases _ _ fun _ _ e => by cases e)
   have hvb : ∀ j, (Value.slice va (k + 1) vc).ownBlock = some j -> w.heap.size <= j := fun j hj => (OU.lt j hj).1
   clear hIt hO b2 bel d0
   go_wp2_with (at_builtin; refine wpList_append_own_at _ rfl (.tmp 16) (.tmp 20) 95 rfl w.heap.size 9 i0 (.string ⟨#[]⟩) 1 16 Tryz.underlying95 hi hz0 hz1 hz2 rfl (by decide) _ _ _ rfl (OU.alloc _) ⟨w2.heap.size, 0, none⟩ 1 1 [.string D] rfl rfl (cell_one_new _ _ _) (by simp [Value.oneCell']) (by unfold maxLen; omega) (by omega) (by simp; omega) ?_; intro v5 w5 o5 g5 _ k5)
   have B5 : Below w.heap.size w w5 := (B2.alloc (by omega) _).grown g5 (by simp; omega) hvb
   have z5 := g5.size
   rw [<- HW.out] at o5
   have z6 : w2.heap.size < (w2.alloc (.cells #[.string D] 9)).heap.size := by simp
   clear g5 k5 OU B2
   try go_wp2
   go_roundw
   case rel => exact ⟨k + 1, by omega, by go_num, o5, B5, by omega⟩
   case measure => first | (simp [intOf]; omega) | simp [intOf]
  ·have ek : ts.take k = ts := List.take_of_length_le (by omega)
   have hkl : k = ts.length := by omega
   subst hkl
   rw [ek] at hO
   have qk : ¬ (ts.length : Int) < (ts.length : Int) := by omega
   have hwl : (wds m ts).length = ts.length + 1 := by simp [wds]
   have hn1 : ts.length + 1 = (wds m ts).length := hwl.symm
   have hO' : wr.ownsRow w.heap.size 9 1 (.slice va (wds m ts).length vc) (wds m ts).length ((wds m ts).map Value.string) := by rw [<- hn1]; exact hO
   clear hO hn1
   have hml : ∀ t ∈ wds m ts, t.size <= 10 := fun t hh => by
    unfold wds at hh
    rcases List.mem_cons.1 hh with rfl | hh
    ·exact hm
    ·obtain ⟨u, hu, rfl⟩ := List.mem_map.1 hh
     have := decB_size (n := u.size) (by have := ht u hu; omega)
     omega
   have htw : tot (wds m ts) <= 100 := by
    have := tot_le_mul hml
    rw [hwl] at this
    omega
   have hcap := (own_cap hO').1
   have hSS := ownSS hO' (fun j hj => by rw [getD_at _ j hj]; have := hml _ (List.getElem_mem hj); omega)
   obtain ⟨g, hge⟩ : ∃ g, va = some ⟨g, 0, none⟩ := by
    rcases hO'.2 with ⟨e, h0⟩ | ⟨g, cap, cur, e, _⟩
    ·omega
    ·simp only [Value.slice.injEq] at e
     exact ⟨g, e.1⟩
   subst hge
   have hJ := joinC g 0 vc (wds m ts) wr hSS (by omega) hcap (by omega) (by omega)
   rw [hwl] at hJ
   have htt : tot ts <= 6000 := by
    have := tot_le_mul (B := 2000) ht
    have : (ts.length : Int) <= 3 := by omega
    have : (2000 : Int) * ts.length <= 2000 * 3 := by omega
    omega
   have HZ : Hid (szT m ts = catB [jnB (wds m ts), ⟨#[10]⟩, catB ts]) := rfl
   have hJs : (jnB (wds m ts)).size <= 200 := by
    have := jl_len (wds m ts) ((wds m ts).length - 1) (by omega)
    have e : (jnB (wds m ts)).size = (jl (wds m ts) ((wds m ts).length - 1)).length := rfl
    rw [show (wds m ts).length - 1 + 1 = (wds m ts).length by omega, List.take_length] at this
    omega
   have hCs : (catB ts).size <= 6000 := by have := catB_size ts; omega
   generalize jnB (wds m ts) = J at hJ HZ hJs
   clear hcap hSS hO' hml htw
   go_wp2_with fail
   refine hJ.mono ?_; rintro e w2 ⟨rfl, b2⟩
   have B2 : Below w.heap.size w w2 := bel.trans (b2.mono bel.size)
   have hC := Jd.joinedC a c ts w2 (hs.below B2) (by omega) (by omega)
   have z2 := b2.size
   generalize catB ts = X at hC HZ hCs
   clear hJ b2 bel
   go_wp2_with fail
   refine hC.mono ?_; rintro e w3 ⟨rfl, b3⟩
   have B3 : Below w.heap.size w w3 := B2.trans (b3.mono B2.size)
   obtain ⟨W4, hW4⟩ : ∃ W, w3.alloc (.cells #[.string J, .string ⟨#[10]⟩, .string X] 9) = W := ⟨_, rfl⟩
   have b4 : Below w3.heap.size w3 W4 := by rw [<- hW4]; exact allocBelow _ _
   have hS4 : SS W4 (some ⟨w3.heap.size, 0, none⟩) [J, ⟨#[10]⟩, X] := by
    rw [<- hW4]
    refine ss_lit w3 [J, ⟨#[10]⟩, X] 9 ?_
    intro x hx
    have e10 : (⟨#[10]⟩ : ByteArray).size = 1 := rfl
    simp only [List.mem_cons, List.not_mem_nil, or_false] at hx
    rcases hx with rfl | rfl | rfl <;> omega
   have hJ4 := Jd.joinedC (some ⟨w3.heap.size, 0, none⟩) 3 [J, ⟨#[10]⟩, X] W4 hS4 (by simp) (by
    have e10 : (⟨#[10]⟩ : ByteArray).size = 1 := rfl
    simp [tot, e10]; omega)
   rw [<- HZ.out] at hJ4
   have B4 : Below w.heap.size w W4 := B3.trans (b4.mono B3.size)
   clear hC b3 B2 B3 b4 hS4
   go_wp2_with fail
   refine hJ4.mono ?_; rintro e w5 ⟨rfl, b5⟩
   have B5 : Below w.heap.size w w5 := B4.trans (b5.mono B4.size)
   clear hJ4 B4 b5 hW4
   go_wp2
   go_ret
   exact ⟨rfl, B5⟩
theorem ret_str {s t : ByteArray} (h : s = t) : Ending.returned (.string s) = .returned (.string t) := by rw [h]
set_option maxRecDepth 20000 in
set_option maxHeartbeats 4000000 in
theorem normalChunkC (x0 : Int) (a1 a2 a3 : Option Addr) (c1 c2 c3 : Nat) (s1 s2 s3 : List ByteArray) (w : World) (S1 : SS w a1 s1) (S2 : SS w a2 s2) (S3 : SS w a3 s3) (t1 : tot s1 <= 2000) (t2 : tot s2 <= 2000) (t3 : tot s3 <= 2000) (l1 : s1.length <= 1048576) (l2 : s2.length <= 1048576) (l3 : s3.length <= 1048576) (hT : TaG w) (hg : 3 < w.heap.size) :
  Calls Tryz.prog 167 #[.agg #[.int .i64 x0, .slice a1 s1.length c1, .slice a2 s2.length c2, .slice a3 s3.length c3]] w fun e w' => e = .returned (.string (nkT (x0, s1, s2, s3))) /\ Below w.heap.size w w' := by
 obtain ⟨W1, hW1⟩ : ∃ W, w.alloc (.cells #[.int .i64 x0, .slice a1 s1.length c1, .slice a2 s2.length c2, .slice a3 s3.length c3] 207) = W := ⟨_, rfl⟩
 have b1 : Below w.heap.size w W1 := by rw [<- hW1]; exact allocBelow _ _
 have r1 : Rf W1 w.heap.size [.int .i64 x0, .slice a1 s1.length c1, .slice a2 s2.length c2, .slice a3 s3.length c3] := by rw [<- hW1]; exact Rf.new _ _ _
 have z1 : W1.heap.size = w.heap.size + 1 := by rw [<- hW1]; simp
 have e0 := r1.at_ 0 _ rfl
 have e1 := r1.at_ 1 _ rfl
 have e2 := r1.at_ 2 _ rfl
 have e3 := r1.at_ 3 _ rfl
 by_cases h4 : x0 = 4
 ·subst h4
  have M1 := S1.below b1
  have M2 := S2.below b1
  have M3 := S3.below b1
  have k1 := cat_bd t1
  have k2 := cat_bd t2
  have k3 := cat_bd t3
  have hJ2 : Hid (∀ W, Below W1.heap.size W1 W -> Calls Tryz.prog 168 #[.slice a2 s2.length c2] W fun e w' => e = .returned (.string (catB s2)) /\ Below W.heap.size W w') := fun W b => Jd.joinedC a2 c2 s2 W (M2.below b) l2 (by omega)
  have hJ3 : Hid (∀ W, Below W1.heap.size W1 W -> Calls Tryz.prog 168 #[.slice a3 s3.length c3] W fun e w' => e = .returned (.string (catB s3)) /\ Below W.heap.size W w') := fun W b => Jd.joinedC a3 c3 s3 W (M3.below b) l3 (by omega)
  have hJ1 : Hid (∀ W, Below W1.heap.size W1 W -> Calls Tryz.prog 168 #[.slice a1 s1.length c1] W fun e w' => e = .returned (.string (catB s1)) /\ Below W.heap.size W w') := fun W b => Jd.joinedC a1 c1 s1 W (M1.below b) l1 (by omega)
  have HN : Hid (nkT (4, s1, s2, s3) = if lsB (catB s3) (catB s2) = true then nk3 (catB s3) (catB s1) (catB s2) else nk3 (catB s2) (catB s1) (catB s3)) := rfl
  generalize catB s1 = X1 at hJ1 HN k1
  generalize catB s2 = X2 at hJ2 HN k2
  generalize catB s3 = X3 at hJ3 HN k3
  have BD : Below W1.heap.size W1 W1.drew := (Below.refl _ _).drew
  have E1 := e1
  have E2 := e2
  have E3 := e3
  clear M1 M2 M3
  go_enter Tryz.func167, Tryz.ntmps167
  go_upto_region 3 with fail
  go_region_held (fun W' => W'.cell? ⟨w.heap.size, 2, none⟩ = some (.slice a2 s2.length c2) /\ W'.cell? ⟨w.heap.size, 3, none⟩ = some (.slice a3 s3.length c3) /\ W'.cell? ⟨w.heap.size, 1, none⟩ = some (.slice a1 s1.length c1)) (first | with_reducible exact ⟨E2, E3, E1⟩ | exact ⟨E2, E3, E1⟩)
   ((go_at_call 168; (first | with_reducible refine (hJ2.out _ BD).mono ?_ | with_reducible refine (hJ3.out _ BD).mono ?_); rintro e w' ⟨rfl, b⟩; have E1 := zcK b E1; have E2 := zcK b E2; have E3 := zcK b E3; have sb := BD.size; have BD := below_step BD (by omega) b; clear b))
  all_goals
   cases hls : lsB X3 X2 with
   | true =>
    have hl2 : Op.bytesLess X3.toList X2.toList = true := hls
    have HN' : Hid (nkT (4, s1, s2, s3) = nk3 X3 X1 X2) := by show _ = _; rw [HN.out, hls]; rfl
    clear hls
    go_wp2_with fail
    with_reducible refine (hJ1.out _ BD).mono ?_
    rintro e w3 ⟨rfl, b3⟩
    have s3' := BD.size
    have BD3 := below_step BD (by omega) b3
    have B3 : Below w.heap.size w w3 := b1.trans (BD3.mono b1.size)
    have z3 := BD3.size
    obtain ⟨W4, hW4⟩ : ∃ W, w3.alloc (.cells #[.string X3, .string X1, .string X2] 9) = W := ⟨_, rfl⟩
    have b4 : Below w3.heap.size w3 W4 := by rw [<- hW4]; exact allocBelow _ _
    have z4 := b4.size
    have hS4 : SS W4 (some ⟨w3.heap.size, 0, none⟩) [X3, X1, X2] := by
     rw [<- hW4]
     refine ss_lit w3 [X3, X1, X2] 9 ?_
     intro x hx
     simp only [List.mem_cons, List.not_mem_nil, or_false] at hx
     rcases hx with rfl | rfl | rfl <;> omega
    have B4 : Below w.heap.size w W4 := B3.trans (b4.mono B3.size)
    have hZ := sizedC ⟨#[33]⟩ (some ⟨w3.heap.size, 0, none⟩) 3 [X3, X1, X2] W4 hS4 (by simp) (by simp) (fun t ht => by
     simp only [List.mem_cons, List.not_mem_nil, or_false] at ht
     rcases ht with rfl | rfl | rfl <;> omega) (by decide) (hT.below B4 hg) (by omega)
    rw [szT_three] at hZ
    have hZ' : Calls Tryz.prog 192 #[.string ⟨#[33]⟩, .slice (some ⟨w3.heap.size, 0, none⟩) 3 3] W4 fun e w' => e = .returned (.string (nk3 X3 X1 X2)) /\ Below W4.heap.size W4 w' := hZ
    generalize nk3 X3 X1 X2 = Y at hZ' HN'
    clear hZ b3 BD BD3 B3 b4 hS4 E1 E2 E3 HN hJ1 hJ2 hJ3
    go_wp2_with fail
    with_reducible refine hZ'.mono ?_
    rintro e w5 ⟨rfl, b5⟩
    have B5 : Below w.heap.size w w5 := B4.trans (b5.mono B4.size)
    clear hZ' B4 b5 hW4
    go_wp2
    go_ret
    exact ⟨ret_str HN'.out.symm, B5⟩
   | false =>
    have hl2 : Op.bytesLess X3.toList X2.toList = false := hls
    have HN' : Hid (nkT (4, s1, s2, s3) = nk3 X2 X1 X3) := by show _ = _; rw [HN.out, hls]; rfl
    clear hls
    go_wp2_with fail
    with_reducible refine (hJ1.out _ BD).mono ?_
    rintro e w3 ⟨rfl, b3⟩
    have s3' := BD.size
    have BD3 := below_step BD (by omega) b3
    have B3 : Below w.heap.size w w3 := b1.trans (BD3.mono b1.size)
    have z3 := BD3.size
    obtain ⟨W4, hW4⟩ : ∃ W, w3.alloc (.cells #[.string X2, .string X1, .string X3] 9) = W := ⟨_, rfl⟩
    have b4 : Below w3.heap.size w3 W4 := by rw [<- hW4]; exact allocBelow _ _
    have z4 := b4.size
    have hS4 : SS W4 (some ⟨w3.heap.size, 0, none⟩) [X2, X1, X3] := by
     rw [<- hW4]
     refine ss_lit w3 [X2, X1, X3] 9 ?_
     intro x hx
     simp only [List.mem_cons, List.not_mem_nil, or_false] at hx
     rcases hx with rfl | rfl | rfl <;> omega
    have B4 : Below w.heap.size w W4 := B3.trans (b4.mono B3.size)
    have hZ := sizedC ⟨#[33]⟩ (some ⟨w3.heap.size, 0, none⟩) 3 [X2, X1, X3] W4 hS4 (by simp) (by simp) (fun t ht => by
     simp only [List.mem_cons, List.not_mem_nil, or_false] at ht
     rcases ht with rfl | rfl | rfl <;> omega) (by decide) (hT.below B4 hg) (by omega)
    rw [szT_three] at hZ
    have hZ' : Calls Tryz.prog 192 #[.string ⟨#[33]⟩, .slice (some ⟨w3.heap.size, 0, none⟩) 3 3] W4 fun e w' => e = .returned (.string (nk3 X2 X1 X3)) /\ Below W4.heap.size W4 w' := hZ
    generalize nk3 X2 X1 X3 = Y at hZ' HN'
    clear hZ b3 BD BD3 B3 b4 hS4 E1 E2 E3 HN hJ1 hJ2 hJ3
    go_wp2_with fail
    with_reducible refine hZ'.mono ?_
    rintro e w5 ⟨rfl, b5⟩
    have B5 : Below w.heap.size w w5 := B4.trans (b5.mono B4.size)
    clear hZ' B4 b5 hW4
    go_wp2
    go_ret
    exact ⟨ret_str HN'.out.symm, B5⟩
 ·have q4 : (x0 != 4) = true := by simp [h4]
  by_cases h2 : x0 = 2
  ·subst h2
   have hTk := takenLines 2 a1 a2 a3 s1.length s2.length s3.length c1 c2 c3 W1
   rw [if_pos rfl] at hTk
   have HN : Hid (nkT (2, s1, s2, s3) = nk1 (catB s3)) := nkT_theirs rfl
   have kx := cat_bd t3
   go_enter Tryz.func167, Tryz.ntmps167
   go_wp2_with fail
   refine hTk.mono ?_; rintro e w2 ⟨rfl, b2⟩
   have B2 : Below w.heap.size w w2 := b1.trans (b2.mono b1.size)
   have hJ := Jd.joinedC a3 c3 s3 w2 (S3.below B2) l3 (by omega)
   have z2 := b2.size
   generalize catB s3 = X at hJ HN kx
   clear hTk b2 e0 e1 e2 e3
   go_wp2_with fail
   refine hJ.mono ?_; rintro e w3 ⟨rfl, b3⟩
   have B3 : Below w.heap.size w w3 := B2.trans (b3.mono B2.size)
   have z3 := b3.size
   obtain ⟨W4, hW4⟩ : ∃ W, w3.alloc (.cells #[.string X] 9) = W := ⟨_, rfl⟩
   have b4 : Below w3.heap.size w3 W4 := by rw [<- hW4]; exact allocBelow _ _
   have z4 := b4.size
   have hS4 : SS W4 (some ⟨w3.heap.size, 0, none⟩) [X] := by
    rw [<- hW4]
    refine ss_lit w3 [X] 9 ?_
    intro x hx
    rw [List.mem_singleton.1 hx]; omega
   have B4 : Below w.heap.size w W4 := B3.trans (b4.mono B3.size)
   have hZ := sizedC ⟨#[61]⟩ (some ⟨w3.heap.size, 0, none⟩) 1 [X] W4 hS4 (by simp) (by simp) (fun t ht => by rw [List.mem_singleton.1 ht]; exact kx) (by decide) (hT.below B4 hg) (by omega)
   rw [szT_one] at hZ
   have hZ' : Calls Tryz.prog 192 #[.string ⟨#[61]⟩, .slice (some ⟨w3.heap.size, 0, none⟩) 1 1] W4 fun e w' => e = .returned (.string (nk1 X)) /\ Below W4.heap.size W4 w' := hZ
   generalize nk1 X = Y at hZ' HN
   clear hJ hZ b3 B2 B3 b4 hS4
   go_wp2_with fail
   refine hZ'.mono ?_; rintro e w5 ⟨rfl, b5⟩
   have B5 : Below w.heap.size w w5 := B4.trans (b5.mono B4.size)
   clear hZ' B4 b5 hW4
   go_wp2
   go_ret
   exact ⟨ret_str HN.out.symm, B5⟩
  ·have qi := h2
   have hTk := takenLines x0 a1 a2 a3 s1.length s2.length s3.length c1 c2 c3 W1
   rw [if_neg h2] at hTk
   have HN : Hid (nkT (x0, s1, s2, s3) = nk1 (catB s2)) := nkT_ours h4 h2
   have kx := cat_bd t2
   go_enter Tryz.func167, Tryz.ntmps167
   go_wp2_with fail
   refine hTk.mono ?_; rintro e w2 ⟨rfl, b2⟩
   have B2 : Below w.heap.size w w2 := b1.trans (b2.mono b1.size)
   have hJ := Jd.joinedC a2 c2 s2 w2 (S2.below B2) l2 (by omega)
   have z2 := b2.size
   generalize catB s2 = X at hJ HN kx
   clear hTk b2 e0 e1 e2 e3
   go_wp2_with fail
   refine hJ.mono ?_; rintro e w3 ⟨rfl, b3⟩
   have B3 : Below w.heap.size w w3 := B2.trans (b3.mono B2.size)
   have z3 := b3.size
   obtain ⟨W4, hW4⟩ : ∃ W, w3.alloc (.cells #[.string X] 9) = W := ⟨_, rfl⟩
   have b4 : Below w3.heap.size w3 W4 := by rw [<- hW4]; exact allocBelow _ _
   have z4 := b4.size
   have hS4 : SS W4 (some ⟨w3.heap.size, 0, none⟩) [X] := by
    rw [<- hW4]
    refine ss_lit w3 [X] 9 ?_
    intro x hx
    rw [List.mem_singleton.1 hx]; omega
   have B4 : Below w.heap.size w W4 := B3.trans (b4.mono B3.size)
   have hZ := sizedC ⟨#[61]⟩ (some ⟨w3.heap.size, 0, none⟩) 1 [X] W4 hS4 (by simp) (by simp) (fun t ht => by rw [List.mem_singleton.1 ht]; exact kx) (by decide) (hT.below B4 hg) (by omega)
   rw [szT_one] at hZ
   have hZ' : Calls Tryz.prog 192 #[.string ⟨#[61]⟩, .slice (some ⟨w3.heap.size, 0, none⟩) 1 1] W4 fun e w' => e = .returned (.string (nk1 X)) /\ Below W4.heap.size W4 w' := hZ
   generalize nk1 X = Y at hZ' HN
   clear hJ hZ b3 B2 B3 b4 hS4
   go_wp2_with fail
   refine hZ'.mono ?_; rintro e w5 ⟨rfl, b5⟩
   have B5 : Below w.heap.size w w5 := B4.trans (b5.mono B4.size)
   clear hZ' B4 b5 hW4
   go_wp2
   go_ret
   exact ⟨ret_str HN.out.symm, B5⟩
end Go.Proofs.YtgincoiehbdphaaGreatDoor.No
set_option linter.unusedVariables false
namespace Go.Proofs.YtgincoiehbdphaaGreatDoor.No
open Go.RowKit
set_option maxHeartbeats 1000000 in
theorem l13Number (n : Nat) (w : World) (h : n < 10000) :
  Calls Tryz.prog 178 #[.int .i64 (n : Int)] w fun e w' => e = .returned (.string (szN n)) /\ Below w.heap.size w w' := by
 have hD := l3Digits n n (Nat.le_refl _) (by omega) w
 have HS : Hid (szN n = ⟨#[32]⟩ ++ decB n) := rfl
 have hsz : (decB n).size <= 1000000 := by have := decB_size h; omega
 generalize decB n = D at hD HS hsz
 go_enter Tryz.func178, Tryz.ntmps178
 go_wp2_with fail
 refine hD.mono ?_; rintro e w1 ⟨rfl, b1⟩
 go_wp2
 go_ret
 exact ⟨by rw [HS.out]; rfl, b1⟩
theorem ret_sb {s t : ByteArray} {a b : Bool} (h : s = t) (k : a = b) : Ending.returned (.tuple #[.string s, .bool a]) = .returned (.tuple #[.string t, .bool b]) := by rw [h, k]
set_option maxRecDepth 20000 in
set_option maxHeartbeats 8000000 in
theorem l13Normal (a b c : ByteArray) (w : World) (ha : a.size <= 1048576) (hb : b.size <= 1048576) (hc : c.size <= 1048576) (h0 : tx3 a b c = 0) :
  Calls Tryz.prog 151 #[.string a, .string b, .string c] w fun e w' => e = .returned (.tuple #[.string (noT (ckT (linesOf a) (linesOf b) (linesOf c))), .bool (clB (ckT (linesOf a) (linesOf b) (linesOf c)))]) /\ Below w.heap.size w w' := by
 have hS1 := fun W => l1Split a W ha
 have hS2 := fun W => l1Split b W hb
 have hS3 := fun W => l1Split c W hc
 have hx := Tx.of h0
 have hSm := sml_of h0
 go_enter Tryz.func151, Tryz.ntmps151
 go_wp2_with fail
 refine (hS1 _).mono ?_; rintro e w3 ⟨v1, rfl, o1, b3⟩
 obtain ⟨p1, d1, rfl⟩ := shapeS o1
 have z3 := b3.size
 clear hS1
 go_wp2_with fail
 refine (hS2 _).mono ?_; rintro e w4 ⟨v2, rfl, o2, b4⟩
 obtain ⟨p2, d2, rfl⟩ := shapeS o2
 have B4 := b3.trans (b4.mono b3.size)
 have z4 := b4.size
 replace o1 := o1.kept (grownOfBelow b4 none) (blockCases _ _ fun _ _ e => by cases e)
 clear hS2 b3
 go_wp2_with fail
 refine (hS3 _).mono ?_; rintro e w5 ⟨v3, rfl, o3, b5⟩
 obtain ⟨p3, d3, rfl⟩ := shapeS o3
 have B5 := B4.trans (b5.mono B4.size)
 have z5 := b5.size
 replace o1 := o1.kept (grownOfBelow b5 none) (blockCases _ _ fun _ _ e => by cases e)
 replace o2 := o2.kept (grownOfBelow b5 none) (blockCases _ _ fun _ _ e => by cases e)
 have fz : ∀ {ss : List ByteArray}, (∀ x ∈ ss, x.size <= 1048576) -> ∀ k, k < ss.length -> (ss.getD k ByteArray.empty).size <= 9223372036854775807 := fun {ss} hy k hk => by
  rw [getD_at _ k hk]; have := hy _ (List.getElem_mem hk); omega
 have x3 : X3 w5.heap.size w5 p1 p2 p3 d1 d2 d3 (linesOf a) (linesOf b) (linesOf c) := ⟨(ownSS o1 (fz hx.y1)).toB, (ownSS o2 (fz hx.y2)).toB, (ownSS o3 (fz hx.y3)).toB⟩
 have hz := hx.z3 (own_cap o1).1 (own_cap o2).1 (own_cap o3).1
 have hL := l4Chunks p1 p2 p3 d1 d2 d3 (linesOf a) (linesOf b) (linesOf c) w5 x3 hz ⟨(own_cap o1).2, (own_cap o2).2, (own_cap o3).2⟩ hx.n1 hx.n2 hx.n3 (kp_ok _ _ _) (by have := ckT_len (linesOf a) (linesOf b) (linesOf c); have := hx.n1; unfold ckT kpL at *; omega)
 have hL' : Calls Tryz.prog 174 #[.slice p1 (linesOf a).length d1, .slice p2 (linesOf b).length d2, .slice p3 (linesOf c).length d3] w5 fun e w' => KPs (ckT (linesOf a) (linesOf b) (linesOf c)) w5 e w' := hL
 clear hS3 B4 b4 b5 o1 o2 o3 x3 hz hL
 have hlen : (ckT (linesOf a) (linesOf b) (linesOf c)).length <= 201 := hx.ok.short
 have hfit := ck_fits hx.y1 hx.y2 hx.y3
 go_wp2_with fail
 refine hL'.mono ?_; rintro e w6 ⟨v6, sl6, rfl, O6, b6⟩
 obtain ⟨p6, d6, rfl⟩ := shapeK O6.row
 have B6 : Below w.heap.size w w6 := B5.trans (b6.mono B5.size)
 have hKB := O6.read hfit
 obtain ⟨T, hTe⟩ : ∃ T, ckT (linesOf a) (linesOf b) (linesOf c) = T := ⟨_, rfl⟩
 have HTE : Hid (ckT (linesOf a) (linesOf b) (linesOf c) = T) := hTe
 rw [hTe] at hSm hlen hfit hKB ⊢
 have z6 := b6.size
 clear hL' O6 B5 b6 fz hx h0 hfit hTe
 go_wp2
 go_loopw [9, 10, 11, 12, 13, 14, 15] (fun o f i _ _ _ _ wr => ∃ k : Nat, k <= T.length /\ i = .int .i64 k /\ o = .string (noT (T.take k)) /\ f = .bool (clB (T.take k)) /\ Below w6.heap.size w6 wr) (fun _ _ i _ _ _ _ _ => T.length - (intOf i).toNat)
 case atStart => exact ⟨0, Nat.zero_le _, rfl, rfl, rfl, Below.refl _ _⟩
 case round =>
  obtain ⟨k, hk, rfl, rfl, rfl, bel⟩ := hrel
  have zr := bel.size
  by_cases hlt : k < T.length
  ·have qk : (k : Int) < (T.length : Int) := by omega
   have hK := hKB.below bel
   obtain ⟨g, off, a1, c1, a2, c2, a3, c3, e, hg, d0, d1, d2, d3, n1, n2, n3⟩ := hK k hlt
   subst e
   have HT : Hid (noT (T.take (k + 1)) = noT (T.take k) ++ nkT (T.getD k cnil)) := noT_take T k hlt
   have HC : Hid (clB (T.take (k + 1)) = (clB (T.take k) || decide ((T.getD k cnil).1 = 4))) := clB_take T k hlt
   have hO := noT_size hSm k hk
   have hm : T.getD k cnil ∈ T := by simp [List.getD, hlt]
   obtain ⟨t1, t2, t3, l1, l2, l3⟩ := hSm _ hm
   obtain ⟨C, hC⟩ : ∃ C, T.getD k cnil = C := ⟨_, rfl⟩
   rw [hC] at d0 d1 d2 d3 n1 n2 n3 HT HC t1 t2 t3 l1 l2 l3
   obtain ⟨x0, s1, s2, s3⟩ := C
   simp only [] at d0 d1 d2 d3 n1 n2 n3 t1 t2 t3 l1 l2 l3
   obtain ⟨W4, hW4⟩ : ∃ W, wr.alloc (.cells #[.int .i64 0, .slice none 0 0, .slice none 0 0, .slice none 0 0] 207) = W := ⟨_, rfl⟩
   have b4 : Below wr.heap.size wr W4 := by rw [<- hW4]; exact allocBelow _ _
   have r4 : Rf W4 wr.heap.size [.int .i64 0, .slice none 0 0, .slice none 0 0, .slice none 0 0] := by rw [<- hW4]; exact Rf.new _ _ _
   obtain ⟨W7, hW7⟩ : ∃ W, (((W4.setCell ⟨wr.heap.size, 0, none⟩ (.int .i64 x0)).setCell ⟨wr.heap.size, 1, none⟩ (.slice a1 s1.length c1)).setCell ⟨wr.heap.size, 2, none⟩ (.slice a2 s2.length c2)).setCell ⟨wr.heap.size, 3, none⟩ (.slice a3 s3.length c3) = W := ⟨_, rfl⟩
   have b7 : Below wr.heap.size wr W7 := by rw [<- hW7]; exact (((b4.setCell (p := ⟨wr.heap.size, 0, none⟩) (Nat.le_refl _) _).setCell (p := ⟨wr.heap.size, 1, none⟩) (Nat.le_refl _) _).setCell (p := ⟨wr.heap.size, 2, none⟩) (Nat.le_refl _) _).setCell (p := ⟨wr.heap.size, 3, none⟩) (Nat.le_refl _) _
   have r7 : Rf W7 wr.heap.size [.int .i64 x0, .slice a1 s1.length c1, .slice a2 s2.length c2, .slice a3 s3.length c3] := by rw [<- hW7]; exact (((r4.set (o := 0) (by simp) _).set (o := 1) (by simp) _).set (o := 2) (by simp) _).set (o := 3) (by simp) _
   have y0 := r4.at_ 0 _ rfl
   have y1 := r4.at_ 1 _ rfl
   have y2 := r4.at_ 2 _ rfl
   have y3 := r4.at_ 3 _ rfl
   have f0 := r4.fz 0
   have f1 := r4.fz 1
   have f2 := r4.fz 2
   have f3 := r4.fz 3
   have e0 := r7.at_ 0 _ rfl
   have e1 := r7.at_ 1 _ rfl
   have e2 := r7.at_ 2 _ rfl
   have e3 := r7.at_ 3 _ rfl
   have z7 := b7.size
   have m1 := (n1.below b7).1.toSS (by omega)
   have m2 := (n2.below b7).1.toSS (by omega)
   have m3 := (n3.below b7).1.toSS (by omega)
   have j1 := fun W (h : SS W a1 s1) => l1Join a1 c1 s1 W h l1 (by omega)
   have j2 := fun W (h : SS W a2 s2) => l1Join a2 c2 s2 W h l2 (by omega)
   have j3 := fun W (h : SS W a3 s3) => l1Join a3 c3 s3 W h l3 (by omega)
   have k1 := cat_bd t1
   have k2 := cat_bd t2
   have k3 := cat_bd t3
   have HK : Hid (nkT (x0, s1, s2, s3) = nkT (x0, s1, s2, s3)) := rfl
   have B7 : Below w6.heap.size w6 W7 := bel.trans (b7.mono bel.size)
   have HX1 : Hid (catB s1 = catB s1) := rfl
   have pure1 : ∀ (W : World) (h : SS W a1 s1), Calls Tryz.prog 177 #[.slice a1 s1.length c1] W fun e w' => e = .returned (.string (catB s1)) /\ w' = W := j1
   by_cases h4 : x0 = 4
   ·subst h4
    cases hls : lsB (catB s3) (catB s2) with
    | true =>
     have HN : Hid (nkT (4, s1, s2, s3) = nk3 (catB s3) (catB s1) (catB s2)) := nkT_turned rfl hls
     have hl2 : (Op.bytesLess (catB s2).toList (catB s3).toList || (catB s2).toList == (catB s3).toList) = false := gt_yes hls
     generalize catB s1 = X1 at j1 k1 HN
     generalize catB s2 = X2 at j2 k2 HN hl2
     generalize catB s3 = X3 at j3 k3 HN hl2
     generalize noT (T.take k) = O at hO HT ⊢
     generalize clB (T.take k) = F at HC ⊢
     clear hC n1 n2 n3 hK HK HX1 pure1 hm hls r4 b4
     have hN1 := fun W => l13Number X3.size W (by omega)
     have hN2 := fun W => l13Number X1.size W (by omega)
     have hN3 := fun W => l13Number X2.size W (by omega)
     have HS : Hid (nk3 X3 X1 X2 = ⟨#[33]⟩ ++ szN X3.size ++ szN X1.size ++ szN X2.size ++ ⟨#[10]⟩ ++ X3 ++ X1 ++ X2) := rfl
     have hsz1 := szN_size (n := X3.size) (by omega)
     have hsz2 := szN_size (n := X1.size) (by omega)
     have hsz3 := szN_size (n := X2.size) (by omega)
     generalize szN X3.size = Z1 at hN1 HS hsz1
     generalize szN X1.size = Z2 at hN2 HS hsz2
     generalize szN X2.size = Z3 at hN3 HS hsz3
     go_upto_region 8 with fail
     try rw [hW7]
     clear hW7 hW4 y0 y1 y2 y3 f0 f1 f2 f3 d0 d1 d2 d3
     go_wp2_with fail
     refine (j2 _ m2).mono ?_; rintro e w' ⟨rfl, rfl⟩
     go_wp2_with fail
     refine (j3 _ m3).mono ?_; rintro e w' ⟨rfl, rfl⟩
     go_wp2_with fail
     refine (j3 _ m3).mono ?_; rintro e w' ⟨rfl, rfl⟩
     go_wp2_with fail
     refine (j2 _ m2).mono ?_; rintro e w' ⟨rfl, rfl⟩
     go_wp2_with fail
     refine (j1 _ m1).mono ?_; rintro e w' ⟨rfl, rfl⟩
     go_wp2_with fail
     refine (hN1 _).mono ?_; rintro e w8 ⟨rfl, b8⟩
     have B8 : Below w6.heap.size w6 w8 := B7.trans (b8.mono B7.size)
     clear b8 B7 e0 e1 e2 e3 r7 m1 m2 m3 j1 j2 j3
     go_wp2_with fail
     refine (hN2 _).mono ?_; rintro e w9 ⟨rfl, b9⟩
     have B9 : Below w6.heap.size w6 w9 := B8.trans (b9.mono B8.size)
     clear b9 B8
     go_wp2_with fail
     refine (hN3 _).mono ?_; rintro e wA ⟨rfl, bA⟩
     have BA : Below w6.heap.size w6 wA := B9.trans (bA.mono B9.size)
     clear bA B9
     go_wp2
     go_roundw
     case rel => exact ⟨k + 1, by omega, by go_num, by rw [HT.out, HN.out, HS.out]; simp only [ByteArray.append_assoc], by rw [HC.out]; simp, BA⟩
     case measure => first | (simp [intOf]; omega) | simp [intOf]
    | false =>
     have HN : Hid (nkT (4, s1, s2, s3) = nk3 (catB s2) (catB s1) (catB s3)) := nkT_clash rfl hls
     have hl2 : (Op.bytesLess (catB s2).toList (catB s3).toList || (catB s2).toList == (catB s3).toList) = true := gt_no hls
     generalize catB s1 = X1 at j1 k1 HN
     generalize catB s2 = X2 at j2 k2 HN hl2
     generalize catB s3 = X3 at j3 k3 HN hl2
     generalize noT (T.take k) = O at hO HT ⊢
     generalize clB (T.take k) = F at HC ⊢
     clear hC n1 n2 n3 hK HK HX1 pure1 hm hls r4 b4
     have hN1 := fun W => l13Number X2.size W (by omega)
     have hN2 := fun W => l13Number X1.size W (by omega)
     have hN3 := fun W => l13Number X3.size W (by omega)
     have HS : Hid (nk3 X2 X1 X3 = ⟨#[33]⟩ ++ szN X2.size ++ szN X1.size ++ szN X3.size ++ ⟨#[10]⟩ ++ X2 ++ X1 ++ X3) := rfl
     have hsz1 := szN_size (n := X2.size) (by omega)
     have hsz2 := szN_size (n := X1.size) (by omega)
     have hsz3 := szN_size (n := X3.size) (by omega)
     generalize szN X2.size = Z1 at hN1 HS hsz1
     generalize szN X1.size = Z2 at hN2 HS hsz2
     generalize szN X3.size = Z3 at hN3 HS hsz3
     go_upto_region 8 with fail
     try rw [hW7]
     clear hW7 hW4 y0 y1 y2 y3 f0 f1 f2 f3 d0 d1 d2 d3
     go_wp2_with fail
     refine (j2 _ m2).mono ?_; rintro e w' ⟨rfl, rfl⟩
     go_wp2_with fail
     refine (j3 _ m3).mono ?_; rintro e w' ⟨rfl, rfl⟩
     go_wp2_with fail
     refine (j1 _ m1).mono ?_; rintro e w' ⟨rfl, rfl⟩
     go_wp2_with fail
     refine (hN1 _).mono ?_; rintro e w8 ⟨rfl, b8⟩
     have B8 : Below w6.heap.size w6 w8 := B7.trans (b8.mono B7.size)
     clear b8 B7 e0 e1 e2 e3 r7 m1 m2 m3 j1 j2 j3
     go_wp2_with fail
     refine (hN2 _).mono ?_; rintro e w9 ⟨rfl, b9⟩
     have B9 : Below w6.heap.size w6 w9 := B8.trans (b9.mono B8.size)
     clear b9 B8
     go_wp2_with fail
     refine (hN3 _).mono ?_; rintro e wA ⟨rfl, bA⟩
     have BA : Below w6.heap.size w6 wA := B9.trans (bA.mono B9.size)
     clear bA B9
     go_wp2
     go_roundw
     case rel => exact ⟨k + 1, by omega, by go_num, by rw [HT.out, HN.out, HS.out]; simp only [ByteArray.append_assoc], by rw [HC.out]; simp, BA⟩
     case measure => first | (simp [intOf]; omega) | simp [intOf]
   ·have q4 : (x0 != 4) = true := by simp [h4]
    by_cases h2 : x0 = 2
    ·subst h2
     have HN : Hid (nkT (2, s1, s2, s3) = nk1 (catB s3)) := nkT_theirs rfl
     generalize catB s1 = X1 at j1 k1 HN
     generalize catB s2 = X2 at j2 k2 HN
     generalize catB s3 = X3 at j3 k3 HN
     generalize noT (T.take k) = O at hO HT ⊢
     generalize clB (T.take k) = F at HC ⊢
     clear hC n1 n2 n3 hK HK HX1 pure1 hm r4 b4
     have hNm := fun W => l13Number X3.size W (by omega)
     have HS : Hid (nk1 X3 = ⟨#[61]⟩ ++ szN X3.size ++ ⟨#[10]⟩ ++ X3) := rfl
     have hsz := szN_size (n := X3.size) (by omega)
     generalize szN X3.size = Z at hNm HS hsz
     go_upto_region 8 with fail
     try rw [hW7]
     clear hW7 hW4 y0 y1 y2 y3 f0 f1 f2 f3 d0 d1 d2 d3
     go_wp2_with fail
     refine (j2 _ m2).mono ?_; rintro e w' ⟨rfl, rfl⟩
     go_wp2_with fail
     refine (j3 _ m3).mono ?_; rintro e w' ⟨rfl, rfl⟩
     go_wp2_with fail
     refine (hNm _).mono ?_; rintro e w8 ⟨rfl, b8⟩
     have B8 : Below w6.heap.size w6 w8 := B7.trans (b8.mono B7.size)
     clear b8 B7 e0 e1 e2 e3 r7 m1 m2 m3
     go_wp2
     go_roundw
     case rel => exact ⟨k + 1, by omega, by go_num, by rw [HT.out, HN.out, HS.out]; simp only [ByteArray.append_assoc], by rw [HC.out, decide_eq_false (by show ¬ _; omega), Bool.or_false], B8⟩
     case measure => first | (simp [intOf]; omega) | simp [intOf]
    ·have HN : Hid (nkT (x0, s1, s2, s3) = nk1 (catB s2)) := nkT_ours h4 h2
     generalize catB s1 = X1 at j1 k1 HN
     generalize catB s2 = X2 at j2 k2 HN
     generalize catB s3 = X3 at j3 k3 HN
     generalize noT (T.take k) = O at hO HT ⊢
     generalize clB (T.take k) = F at HC ⊢
     clear hC n1 n2 n3 hK HK HX1 pure1 hm r4 b4
     have hNm := fun W => l13Number X2.size W (by omega)
     have HS : Hid (nk1 X2 = ⟨#[61]⟩ ++ szN X2.size ++ ⟨#[10]⟩ ++ X2) := rfl
     have hsz := szN_size (n := X2.size) (by omega)
     generalize szN X2.size = Z at hNm HS hsz
     go_upto_region 8 with fail
     try rw [hW7]
     clear hW7 hW4 y0 y1 y2 y3 f0 f1 f2 f3 d0 d1 d2 d3
     go_wp2_with fail
     refine (j2 _ m2).mono ?_; rintro e w' ⟨rfl, rfl⟩
     go_wp2_with fail
     refine (j3 _ m3).mono ?_; rintro e w' ⟨rfl, rfl⟩
     go_wp2_with fail
     refine (hNm _).mono ?_; rintro e w8 ⟨rfl, b8⟩
     have B8 : Below w6.heap.size w6 w8 := B7.trans (b8.mono B7.size)
     clear b8 B7 e0 e1 e2 e3 r7 m1 m2 m3
     go_wp2
     go_roundw
     case rel => exact ⟨k + 1, by omega, by go_num, by rw [HT.out, HN.out, HS.out]; simp only [ByteArray.append_assoc], by rw [HC.out, decide_eq_false (by show ¬ _; omega), Bool.or_false], B8⟩
     case measure => first | (simp [intOf]; omega) | simp [intOf]
  ·have HR : Hid (T.take k = T) := List.take_of_length_le (by omega)
   have qk : ¬ (k : Int) < (T.length : Int) := by omega
   rw [HR.out]
   go_wp2
   go_ret2
   exact ⟨ret_sb (by rw [HTE.out]) (by rw [HTE.out]), B6.trans (bel.mono B6.size)⟩
set_option maxRecDepth 20000 in
set_option maxHeartbeats 4000000 in
theorem specNormalText (a b c : ByteArray) (w : World) (ha : a.size <= 1048576) (hb : b.size <= 1048576) (hc : c.size <= 1048576) :
  Calls Tryz.prog 102 #[.string a, .string b, .string c] w fun e w' => e = .returned (.agg #[.int .i64 (noC a b c), .string (noX a b c)]) /\ Below w.heap.size w w' := by
 obtain ⟨b0, hb0⟩ : ∃ b, w.heap.size = b := ⟨_, rfl⟩
 obtain ⟨W1, hW1⟩ : ∃ W, w.alloc (.cells #[.int .i64 0, .string ⟨#[]⟩] 98) = W := ⟨_, rfl⟩
 have b1 : Below b0 w W1 := by rw [<- hW1, <- hb0]; exact allocBelow _ _
 have r1 : Res2 W1 b0 (.int .i64 0) (.string ⟨#[]⟩) := by rw [<- hW1, <- hb0]; exact Res2.new _ _ _ _
 have z1 : W1.heap.size = b0 + 1 := by rw [<- hW1, <- hb0]; simp
 have hT := l4Texts a b c W1 ha hb hc
 by_cases h0 : tx3 a b c = 0
 ·rw [h0] at hT
  have hL := fun W => l13Normal a b c W ha hb hc h0
  go_enter Tryz.func102, Tryz.ntmps102
  go_wp2_with fail
  refine hT.mono ?_; rintro e w2 ⟨rfl, b2⟩
  have B2 : Below b0 w w2 := b1.trans (b2.mono (by omega))
  have r2 := r1.below (by omega) b2
  have z2 := b2.size
  clear hT b1 b2 r1
  by_cases hk : cc (ckT (linesOf a) (linesOf b) (linesOf c)) = 0
  ·have HR : Hid (noC a b c = 4 /\ noX a b c = ⟨#[]⟩) := no_none h0 hk
   rw [clB_cc, hk] at hL
   generalize noT (ckT (linesOf a) (linesOf b) (linesOf c)) = Y at hL
   have e0 : decide (¬ (0 : Int) = 0) = false := by decide
   rw [e0] at hL
   clear h0 hk e0
   go_wp2_with fail
   refine (hL _).mono ?_; rintro e w3 ⟨rfl, b3⟩
   have B3 : Below b0 w w3 := B2.trans (b3.mono (by omega))
   have r3 := r2.below (by omega) b3
   have d0 := r3.c0
   have d1 := r3.c1
   have f0 := r3.f0
   have f1 := r3.f1
   clear r2 r3 B2 b3 hL
   go_wp2
   refine bodyPost_ret (v := .agg #[.int .i64 4, .string ⟨#[]⟩]) (by simp [results, Tryz.results102, go_sem, d0, d1]) rfl ?_
   exact ⟨ret_ct HR.out.1.symm HR.out.2.symm, by rw [hb0]; exact below_sets B3 (Nat.le_refl _) _ _⟩
  ·have HR : Hid (noC a b c = 0 /\ noX a b c = noT (ckT (linesOf a) (linesOf b) (linesOf c))) := no_some h0 hk
   rw [clB_cc, decide_eq_true hk] at hL
   generalize noT (ckT (linesOf a) (linesOf b) (linesOf c)) = Y at hL HR
   clear h0 hk
   go_wp2_with fail
   refine (hL _).mono ?_; rintro e w3 ⟨rfl, b3⟩
   have B3 : Below b0 w w3 := B2.trans (b3.mono (by omega))
   have r3 := r2.below (by omega) b3
   have d0 := r3.c0
   have d1 := r3.c1
   have f0 := r3.f0
   have f1 := r3.f1
   clear r2 r3 B2 b3 hL
   go_wp2
   refine bodyPost_ret (v := .agg #[.int .i64 0, .string Y]) (by simp [results, Tryz.results102, go_sem, d0, d1]) rfl ?_
   exact ⟨ret_ct HR.out.1.symm HR.out.2.symm, by rw [hb0]; exact below_sets B3 (Nat.le_refl _) _ _⟩
 ·have HR : Hid (noC a b c = tx3 a b c /\ noX a b c = ⟨#[]⟩) := no_fault h0
  have q0 : (tx3 a b c != 0) = true := by simp [h0]
  generalize tx3 a b c = V at hT HR q0
  go_enter Tryz.func102, Tryz.ntmps102
  go_wp2_with fail
  refine hT.mono ?_; rintro e w2 ⟨rfl, b2⟩
  have B2 : Below b0 w w2 := b1.trans (b2.mono (by omega))
  have r2 := r1.below (by omega) b2
  have d0 := r2.c0
  have d1 := r2.c1
  have f0 := r2.f0
  have f1 := r2.f1
  clear r2 r1 b1 b2 hT
  go_wp2
  refine bodyPost_ret (v := .agg #[.int .i64 V, .string ⟨#[]⟩]) (by simp [results, Tryz.results102, go_sem, d0, d1]) rfl ?_
  exact ⟨ret_ct HR.out.1.symm HR.out.2.symm, by rw [hb0]; exact below_sets B2 (Nat.le_refl _) _ _⟩
end Go.Proofs.YtgincoiehbdphaaGreatDoor.No
