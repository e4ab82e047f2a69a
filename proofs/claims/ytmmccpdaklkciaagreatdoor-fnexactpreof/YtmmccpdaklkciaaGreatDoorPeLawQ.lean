/- Proved: at every store, every index and every path FnExactPreOf returns true (PreOf answers as its specification, field by field, and changes no argument). Its condition: the laid variables hold what the row says (the tied card FnExactPreOfCardSaid). -/
import Derived.Test.YtmmccpdaklkciaaGreatDoorRows
import Derived.Test.YtmmccpdaklkciaaGreatDoorLemQ
import Derived.Test.YtmmccpdaklkciaaGreatDoorMarksQ
import Derived.Test.YtmmccpdaklkciaaGreatDoorDTabQ
import Derived.Test.YtmmccpdaklkciaaGreatDoorHkTQ
import Derived.Test.YtmmccpdaklkciaaGreatDoorObLQ
import Derived.Test.YtmmccpdaklkciaaGreatDoorDigCQ
import Derived.Test.YtmmccpdaklkciaaGreatDoorEnLQ
import Derived.Test.YtmmccpdaklkciaaGreatDoorIxMQ
import Derived.Test.YtmmccpdaklkciaaGreatDoorTvMQ
import Derived.Test.YtmmccpdaklkciaaGreatDoorNoIQ
import Derived.Test.YtmmccpdaklkciaaGreatDoorPvMQ
import Derived.Test.YtmmccpdaklkciaaGreatDoorPvFQ
import Derived.Test.YtmmccpdaklkciaaGreatDoorPvTQ
import Derived.Test.YtmmccpdaklkciaaGreatDoorTie
import Derived.Test.YtmmccpdaklkciaaGreatDoorCards
import Derived.WalkKit
import Derived.ProofKit
import Derived.OpenShut
import Derived.Below
import Derived.Carry
import Derived.ShutString
import Derived.ChangeVars
import Derived.OpenVars
import Derived.LaidMore
import Derived.Lay
import Derived.SevenTiedAt
import Derived.Stop.Joined
import Derived.JoinedOf
import Derived.Lib.LaidTab
namespace Go.Proofs.YtmmccpdaklkciaaGreatDoor.PeLaw
open Go.Proofs.YtmmccpdaklkciaaGreatDoor.No
open Go.ChangeShapes Go.WideShapes Go.ChangeAt Go.RowKit
open Go.ChangeMaps (open_string shut_string)

theorem tTa : (Tryz.prog.globals[3]?).map (·.type) = some 327 := by kernel_rfl
theorem tab_of {P : Program} {W : World} {name : String} {k : IntKind} {zs : List Int} {t e : TypeId} {n : Nat} {cs : Array Value} {fuel : Nat} {p : List MemPlace}
    (ht : P.underlying t = some (.array n e)) (he : P.underlying e = some (.int k)) (hce : P.cellsOf e = 1) (hct : P.cellsOf t = n)
    (hv : W.var? P name = some cs) (hd : DataW.trod (fun _ => ()) P W 0 (fun _ => true) false fuel t cs.toList = some (Lib.tabData k zs, p)) : Lib.TabIs P W name k zs := by
  unfold Lib.TabIs
  rw [hv, ← Lib.cells_of_tab ht he hce hct hd]
theorem of_laid {W : World} (h0 : laidMetH Tryz.prog Rows.fnExactPreOfRow.laid W) : TaG W := by
  rw [MakeChecks.laidMetH_plain _ _ _ (by kernel_rfl)] at h0
  have h : laidMet Tryz.prog [("math/bits.deBruijn32tab", Rows.laid_math_bits_deBruijn32tab), ("math/bits.deBruijn64tab", Rows.laid_math_bits_deBruijn64tab), ("internal/strconv.uint64pow10", Lib.tabData .u64 Lib.pow10Tab), ("unicode/utf8.acceptRanges", Rows.laid_unicode_utf8_acceptRanges), ("unicode/utf8.first", Rows.laid_unicode_utf8_first)] W := h0
  obtain ⟨ps, ⟨_, _, _, _, _, _, _, _, _, _, ⟨_, _, _, _, _, _, _, _, _, _, ⟨g1, t1, cs1, f1, p1, q1, hg1, ht1, hv1, hd1, _, _⟩, _⟩, _⟩, _, _⟩ := h
  obtain rfl := Option.some.inj (gTa.symm.trans hg1)
  obtain rfl := Option.some.inj (tTa.symm.trans ht1)
  exact tab_of Tryz.underlying327 Tryz.underlying249 (by kernel_rfl) (by kernel_rfl) hv1 hd1
theorem cellLtTa {W : World} (h : TaG W) : 3 < W.heap.size :=
  cellLt (h.cell gTa 0 (by decide))
theorem beq_self (s : ByteArray) : (s.toList == s.toList) = true := beq_bytes_true rfl
set_option maxHeartbeats 400000 in
theorem eqTextResult (c : Int) (s : ByteArray) (w : World) :
    Calls Tryz.prog 32 #[.agg #[.int .i64 c, .string s], .agg #[.int .i64 c, .string s]] w fun e w' => e = .returned (.bool true) ∧ Below w.heap.size w w' := by
  have hb := beq_self s
  go_enter Tryz.func32, Tryz.ntmps32
  go_wp2
  go_ret
  exact ⟨rfl, ((Below.refl _ _).alloc (Nat.le_refl _) _).alloc (by simp) _⟩
theorem ownOne (b n cap : Nat) : ∀ j, (Value.slice (some ⟨b, 0, none⟩) n cap).ownBlock = some j → b ≤ j ∧ j < b + 1 := by
  intro j hj
  have e : b = j := by simpa [Value.ownBlock] using hj
  omega
set_option maxRecDepth 20000 in
set_option maxHeartbeats 4000000 in
theorem walk (a1 : Option Addr) (c1 : Nat) (l1o : List Ob) (a2 : Option Addr) (c2 : Nat) (l2o : List En.Ob) (d : ByteArray) (w : World) (h1 : OB w.heap.size w a1 l1o) (hf1 : FitsO l1o) (n1 : l1o.length ≤ 9223372036854775807) (h2 : En.OB w.heap.size w a2 l2o) (hf2 : En.FitsO l2o) (n2 : l2o.length ≤ 9223372036854775807) (hT : TaG w) (hG : 3 < w.heap.size) :
    Calls Tryz.prog 5 #[.slice a1 l1o.length c1, .slice a2 l2o.length c2, .string d] w fun e w' => e = .returned (.bool true) ∧ Below w.heap.size w w' := by
  have BB := Below.refl w.heap.size w
  by_cases hbig : (1048576 : Int) < (d.size : Int)
  · go_enter Tryz.func5, Tryz.ntmps5
    go_wp2
    go_ret
    exact ⟨rfl, BB⟩
  have A1 := h1
  clear h1
  obtain ⟨Q1, hQ1⟩ : ∃ Q, leftO 1048576 l1o = Q := ⟨_, rfl⟩
  have HQ1 : Hid (leftO 1048576 l1o = Q1) := hQ1
  have hZ1 := fun W h => szObjectS a1 c1 l1o 1048576 W h hf1 n1 (by omega) (by omega)
  rw [hQ1] at hZ1
  by_cases hx1 : Q1 < 0
  · clear hQ1
    go_enter Tryz.func5, Tryz.ntmps5
    go_wp2_with fail
    refine (hZ1 _ (A1.mono (by omega))).mono ?_; rintro e w1 ⟨rfl, b⟩
    have F2 : Fr w.heap.size w.heap.size w w1 := Fr.ofBelow b
    replace BB := F2.below BB (by omega) (by omega)
    replace A1 := A1.fr F2 (.inl (by omega))
    have SF2 := F2.size
    clear b F2
    go_wp2_with fail
    go_ret
    exact ⟨rfl, BB⟩
  have hq1a : 0 ≤ Q1 := by omega
  have hq1b : Q1 ≤ 1048576 := by have hb := leftO_bd (l := l1o) (n := 1048576) (by rw [HQ1.out]; exact hx1); rw [HQ1.out] at hb; have := Int.le_refl (1048576 : Int); omega
  have hx1' : ¬ leftO 1048576 l1o < 0 := by rw [hQ1]; exact hx1
  obtain ⟨hs1, l1⟩ := leftO_nums hx1' (by omega)
  clear hQ1
  have A2 := h2
  clear h2
  obtain ⟨Q2, hQ2⟩ : ∃ Q, En.leftO Q1 l2o = Q := ⟨_, rfl⟩
  have HQ2 : Hid (En.leftO Q1 l2o = Q2) := hQ2
  have hZ2 := fun W h => En.szEntryS a2 c2 l2o Q1 W h hf2 n2 hq1a hq1b
  rw [hQ2] at hZ2
  by_cases hx2 : Q2 < 0
  · clear hQ2
    go_enter Tryz.func5, Tryz.ntmps5
    go_wp2_with fail
    refine (hZ1 _ (A1.mono (by omega))).mono ?_; rintro e w1 ⟨rfl, b⟩
    have F2 : Fr w.heap.size w.heap.size w w1 := Fr.ofBelow b
    replace BB := F2.below BB (by omega) (by omega)
    replace A1 := A1.fr F2 (.inl (by omega))
    replace A2 := A2.fr F2 (.inl (by omega))
    have SF2 := F2.size
    clear b F2
    go_wp2_with fail
    refine (hZ2 _ (A2.mono (by omega))).mono ?_; rintro e w3 ⟨rfl, b⟩
    have F4 : Fr w.heap.size w.heap.size w1 w3 := Fr.ofBelow b
    replace BB := F4.below BB (by omega) (by omega)
    replace A1 := A1.fr F4 (.inl (by omega))
    replace A2 := A2.fr F4 (.inl (by omega))
    have SF4 := F4.size
    clear b F4
    go_wp2_with fail
    go_ret
    exact ⟨rfl, BB⟩
  have hq2a : 0 ≤ Q2 := by omega
  have hq2b : Q2 ≤ 1048576 := by have hb := En.leftO_bd (l := l2o) (n := Q1) (by rw [HQ2.out]; exact hx2); rw [HQ2.out] at hb; have := hq1b; omega
  have hx2' : ¬ En.leftO Q1 l2o < 0 := by rw [hQ2]; exact hx2
  obtain ⟨hs2, l2⟩ := En.leftO_nums hx2' hq1b
  clear hQ2
  have hd : d.size ≤ 1048576 := by omega
  have hS : ∀ (a1 : Option Addr) (c1 : Nat) (a2 : Option Addr) (c2 : Nat) W, OB W.heap.size W a1 l1o → En.OB W.heap.size W a2 l2o → Calls Tryz.prog 30 #[.slice a1 l1o.length c1, .slice a2 l2o.length c2, .string d] W fun e w' => e = .returned (.agg #[.int .i64 (Pv.poC l1o l2o d), .string (Pv.poT l1o l2o d)]) ∧ Below W.heap.size W w' := fun a1 c1 a2 c2 W h1 h2 => Pv.specPreOf a1 c1 l1o a2 c2 l2o d W h1 hs1 l1 h2 hs2 l2
  have hI : ∀ (a1 : Option Addr) (c1 : Nat) (a2 : Option Addr) (c2 : Nat) W, OB W.heap.size W a1 l1o → En.OB W.heap.size W a2 l2o → Below w.heap.size w W → Calls Tryz.prog 31 #[.slice a1 l1o.length c1, .slice a2 l2o.length c2, .string d] W fun e w' => e = .returned (.agg #[.int .i64 (Pv.poC l1o l2o d), .string (Pv.poT l1o l2o d)]) ∧ Below W.heap.size W w' := fun a1 c1 a2 c2 W h1 h2 b => Pv.implPreOf a1 c1 l1o a2 c2 l2o d W h1 hs1 l1 h2 hs2 l2 (hT.below b hG) (Nat.lt_of_lt_of_le hG b.size)
  clear hT hG
  obtain ⟨r, hrr⟩ : ∃ r, Pv.poC l1o l2o d = r := ⟨_, rfl⟩
  obtain ⟨V, hV⟩ : ∃ V, Pv.poT l1o l2o d = V := ⟨_, rfl⟩
  rw [hrr, hV] at hS hI
  clear hrr hV hx1' hx2'
  go_enter Tryz.func5, Tryz.ntmps5
  go_wp2_with fail
  refine (hZ1 _ (A1.mono (by omega))).mono ?_; rintro e w1 ⟨rfl, b⟩
  have F2 : Fr w.heap.size w.heap.size w w1 := Fr.ofBelow b
  replace BB := F2.below BB (by omega) (by omega)
  replace A1 := A1.fr F2 (.inl (by omega))
  replace A2 := A2.fr F2 (.inl (by omega))
  have SF2 := F2.size
  clear b F2
  go_wp2_with fail
  refine (hZ2 _ (A2.mono (by omega))).mono ?_; rintro e w3 ⟨rfl, b⟩
  have F4 : Fr w.heap.size w.heap.size w1 w3 := Fr.ofBelow b
  replace BB := F4.below BB (by omega) (by omega)
  replace A1 := A1.fr F4 (.inl (by omega))
  replace A2 := A2.fr F4 (.inl (by omega))
  have SF4 := F4.size
  clear b F4
  go_wp2_with fail
  refine (toObjectS a1 c1 l1o _ (A1.mono (by omega)) l1).mono ?_; rintro e w5 ⟨rfl, x1, b⟩
  have jx1 : ∀ j, (Value.slice (some ⟨w3.heap.size, 0, none⟩) l1o.length l1o.length).ownBlock = some j → w3.heap.size ≤ j ∧ j < w5.heap.size := fun j hj => x1.lt j hj
  have zw5 : w3.heap.size < w5.heap.size := (jx1 _ rfl).2
  have F6 : Fr w.heap.size w.heap.size w3 w5 := Fr.ofBelow b
  replace BB := F6.below BB (by omega) (by omega)
  replace A1 := A1.fr F6 (.inl (by omega))
  replace A2 := A2.fr F6 (.inl (by omega))
  have SF6 := F6.size
  clear b F6
  go_wp2_with fail
  refine (En.toEntryS a2 c2 l2o _ (A2.mono (by omega)) l2).mono ?_; rintro e w7 ⟨rfl, x2, b⟩
  have jx2 : ∀ j, (Value.slice (some ⟨w5.heap.size, 0, none⟩) l2o.length l2o.length).ownBlock = some j → w5.heap.size ≤ j ∧ j < w7.heap.size := fun j hj => x2.lt j hj
  have zw7 : w5.heap.size < w7.heap.size := (jx2 _ rfl).2
  have F8 : Fr w.heap.size w.heap.size w5 w7 := Fr.ofBelow b
  replace BB := F8.below BB (by omega) (by omega)
  replace A1 := A1.fr F8 (.inl (by omega))
  replace A2 := A2.fr F8 (.inl (by omega))
  replace x1 := F8.own x1 (fun j hj => by have := jx1 j hj; omega)
  have SF8 := F8.size
  clear b F8
  go_wp2_with fail
  refine (hS _ _ _ _ _ (OB.of x1) (En.OB.of x2)).mono ?_; rintro e w9 ⟨rfl, bp⟩
  have F10 : Fr w.heap.size w.heap.size w7 w9 := Fr.ofBelow bp
  replace BB := F10.below BB (by omega) (by omega)
  replace A1 := A1.fr F10 (.inl (by omega))
  replace A2 := A2.fr F10 (.inl (by omega))
  replace x1 := F10.own x1 (fun j hj => by have := jx1 j hj; omega)
  replace x2 := F10.own x2 (fun j hj => by have := jx2 j hj; omega)
  have SF10 := F10.size
  clear bp F10
  clear x1 jx1
  clear x2 jx2
  obtain ⟨W11, hW11⟩ : ∃ W, w9.alloc (.cells #[.int .i64 r, .string V] 59) = W := ⟨_, rfl⟩
  have Rp : Rs W11 w9.heap.size [.int .i64 r, .string V] := by rw [← hW11]; exact Rs.new _ _ _
  have F12 : Fr w.heap.size w.heap.size w9 W11 := by rw [← hW11]; exact Fr.ofAlloc _ _
  have zW11 : w9.heap.size < W11.heap.size := by rw [← hW11]; simp
  replace BB := F12.below BB (by omega) (by omega)
  replace A1 := A1.fr F12 (.inl (by omega))
  replace A2 := A2.fr F12 (.inl (by omega))
  have SF12 := F12.size
  clear F12
  go_wp2_with fail
  refine (toObjectS a1 c1 l1o _ (A1.mono (by omega)) l1).mono ?_; rintro e w13 ⟨rfl, X1, b⟩
  have jX1 : ∀ j, (Value.slice (some ⟨W11.heap.size, 0, none⟩) l1o.length l1o.length).ownBlock = some j → W11.heap.size ≤ j ∧ j < w13.heap.size := fun j hj => X1.lt j hj
  have zw13 : W11.heap.size < w13.heap.size := (jX1 _ rfl).2
  have F14 : Fr w.heap.size w.heap.size W11 w13 := Fr.ofBelow b
  replace BB := F14.below BB (by omega) (by omega)
  replace A1 := A1.fr F14 (.inl (by omega))
  replace A2 := A2.fr F14 (.inl (by omega))
  replace Rp := F14.rs Rp (by omega)
  have SF14 := F14.size
  clear b F14
  clear hW11
  go_wp2_with fail
  refine (En.toEntryS a2 c2 l2o _ (A2.mono (by omega)) l2).mono ?_; rintro e w15 ⟨rfl, X2, b⟩
  have jX2 : ∀ j, (Value.slice (some ⟨w13.heap.size, 0, none⟩) l2o.length l2o.length).ownBlock = some j → w13.heap.size ≤ j ∧ j < w15.heap.size := fun j hj => X2.lt j hj
  have zw15 : w13.heap.size < w15.heap.size := (jX2 _ rfl).2
  have F16 : Fr w.heap.size w.heap.size w13 w15 := Fr.ofBelow b
  replace BB := F16.below BB (by omega) (by omega)
  replace A1 := A1.fr F16 (.inl (by omega))
  replace A2 := A2.fr F16 (.inl (by omega))
  replace Rp := F16.rs Rp (by omega)
  replace X1 := F16.own X1 (fun j hj => by have := jX1 j hj; omega)
  have SF16 := F16.size
  clear b F16
  go_wp2_with fail
  refine (hI _ _ _ _ _ (OB.of X1) (En.OB.of X2) BB).mono ?_; rintro e w17 ⟨rfl, bq⟩
  have F18 : Fr w.heap.size w.heap.size w15 w17 := Fr.ofBelow bq
  replace BB := F18.below BB (by omega) (by omega)
  replace A1 := A1.fr F18 (.inl (by omega))
  replace A2 := A2.fr F18 (.inl (by omega))
  replace Rp := F18.rs Rp (by omega)
  replace X1 := F18.own X1 (fun j hj => by have := jX1 j hj; omega)
  replace X2 := F18.own X2 (fun j hj => by have := jX2 j hj; omega)
  have SF18 := F18.size
  clear bq F18
  obtain ⟨W19, hW19⟩ : ∃ W, w17.alloc (.cells #[.int .i64 r, .string V] 59) = W := ⟨_, rfl⟩
  have Rq : Rs W19 w17.heap.size [.int .i64 r, .string V] := by rw [← hW19]; exact Rs.new _ _ _
  have F20 : Fr w.heap.size w.heap.size w17 W19 := by rw [← hW19]; exact Fr.ofAlloc _ _
  have zW19 : w17.heap.size < W19.heap.size := by rw [← hW19]; simp
  replace BB := F20.below BB (by omega) (by omega)
  replace A1 := A1.fr F20 (.inl (by omega))
  replace A2 := A2.fr F20 (.inl (by omega))
  replace Rp := F20.rs Rp (by omega)
  replace X1 := F20.own X1 (fun j hj => by have := jX1 j hj; omega)
  replace X2 := F20.own X2 (fun j hj => by have := jX2 j hj; omega)
  have SF20 := F20.size
  clear F20
  have dp0 := Rp 0 _ rfl
  have dp1 := Rp 1 _ rfl
  have dq0 := Rq 0 _ rfl
  have dq1 := Rq 1 _ rfl
  go_wp2_with fail
  refine (eqTextResult _ _ _).mono ?_; rintro e w21 ⟨rfl, b⟩
  have F22 : Fr w.heap.size w.heap.size W19 w21 := Fr.ofBelow b
  replace BB := F22.below BB (by omega) (by omega)
  replace A1 := A1.fr F22 (.inl (by omega))
  replace A2 := A2.fr F22 (.inl (by omega))
  replace Rp := F22.rs Rp (by omega)
  replace X1 := F22.own X1 (fun j hj => by have := jX1 j hj; omega)
  replace X2 := F22.own X2 (fun j hj => by have := jX2 j hj; omega)
  replace Rq := F22.rs Rq (by omega)
  have SF22 := F22.size
  clear b F22
  clear dp0 dp1
  clear dq0 dq1
  clear hW19
  go_wp2_with fail
  refine (toObjectS a1 c1 l1o _ (A1.mono (by omega)) l1).mono ?_; rintro e w23 ⟨rfl, y, b⟩
  have jy : ∀ j, (Value.slice (some ⟨w21.heap.size, 0, none⟩) l1o.length l1o.length).ownBlock = some j → w21.heap.size ≤ j ∧ j < w23.heap.size := fun j hj => y.lt j hj
  have zw23 : w21.heap.size < w23.heap.size := (jy _ rfl).2
  have F24 : Fr w.heap.size w.heap.size w21 w23 := Fr.ofBelow b
  replace BB := F24.below BB (by omega) (by omega)
  replace A1 := A1.fr F24 (.inl (by omega))
  replace A2 := A2.fr F24 (.inl (by omega))
  replace Rp := F24.rs Rp (by omega)
  replace X1 := F24.own X1 (fun j hj => by have := jX1 j hj; omega)
  replace X2 := F24.own X2 (fun j hj => by have := jX2 j hj; omega)
  replace Rq := F24.rs Rq (by omega)
  have SF24 := F24.size
  clear b F24
  go_wp2_with fail
  refine (eqObjectS _ _ _ _ l1o _ (OB.of X1) (OB.of y) l1).mono ?_; rintro e w25 ⟨rfl, b⟩
  clear y jy
  have F26 : Fr w.heap.size w.heap.size w23 w25 := Fr.ofBelow b
  replace BB := F26.below BB (by omega) (by omega)
  replace A1 := A1.fr F26 (.inl (by omega))
  replace A2 := A2.fr F26 (.inl (by omega))
  replace Rp := F26.rs Rp (by omega)
  replace X1 := F26.own X1 (fun j hj => by have := jX1 j hj; omega)
  replace X2 := F26.own X2 (fun j hj => by have := jX2 j hj; omega)
  replace Rq := F26.rs Rq (by omega)
  have SF26 := F26.size
  clear b F26
  go_wp2_with fail
  refine (En.toEntryS a2 c2 l2o _ (A2.mono (by omega)) l2).mono ?_; rintro e w27 ⟨rfl, y, b⟩
  have jy : ∀ j, (Value.slice (some ⟨w25.heap.size, 0, none⟩) l2o.length l2o.length).ownBlock = some j → w25.heap.size ≤ j ∧ j < w27.heap.size := fun j hj => y.lt j hj
  have zw27 : w25.heap.size < w27.heap.size := (jy _ rfl).2
  have F28 : Fr w.heap.size w.heap.size w25 w27 := Fr.ofBelow b
  replace BB := F28.below BB (by omega) (by omega)
  replace A1 := A1.fr F28 (.inl (by omega))
  replace A2 := A2.fr F28 (.inl (by omega))
  replace Rp := F28.rs Rp (by omega)
  replace X1 := F28.own X1 (fun j hj => by have := jX1 j hj; omega)
  replace X2 := F28.own X2 (fun j hj => by have := jX2 j hj; omega)
  replace Rq := F28.rs Rq (by omega)
  have SF28 := F28.size
  clear b F28
  go_wp2_with fail
  refine (En.eqEntryS _ _ _ _ l2o _ (En.OB.of X2) (En.OB.of y) l2).mono ?_; rintro e w29 ⟨rfl, b⟩
  clear y jy
  have F30 : Fr w.heap.size w.heap.size w27 w29 := Fr.ofBelow b
  replace BB := F30.below BB (by omega) (by omega)
  replace A1 := A1.fr F30 (.inl (by omega))
  replace A2 := A2.fr F30 (.inl (by omega))
  replace Rp := F30.rs Rp (by omega)
  replace X1 := F30.own X1 (fun j hj => by have := jX1 j hj; omega)
  replace X2 := F30.own X2 (fun j hj => by have := jX2 j hj; omega)
  replace Rq := F30.rs Rq (by omega)
  have SF30 := F30.size
  clear b F30
  go_wp2_with fail
  go_ret
  exact ⟨rfl, BB⟩

set_option linter.unusedVariables false
theorem laidOut : laidOutB Tryz.prog = true := by kernel_rfl
theorem own : ownKnob Tryz.prog.godebug = none := by kernel_rfl
set_option maxRecDepth 100000 in
theorem lifted (os : Os) (started : os.Started) (H : Type) (enc : TypeId × Value → H) :
    ReturnsInHanded {} Tryz.checked os 5 .any (fun w args => (Rows.fnExactPreOfSpec.pre enc Tryz.prog Tryz.f5 [] false w args ∧ laidMetH Tryz.prog Rows.fnExactPreOfRow.laid w) ∧ sizedMet enc Tryz.prog Tryz.f5 (OpenSpec.ofChange Rows.fnExactPreOfSpec) false w args)
      (Rows.fnExactPreOfSpec.post enc Tryz.prog Tryz.f5 false true false false) := by
  refine returnsInHanded_of_change_and (C := Tryz.checked) (X := fun w _ => laidMetH Tryz.prog Rows.fnExactPreOfRow.laid w) (fun _ _ _ hh h => h.of_heap hh) own started (by kernel_rfl) Tryz.func5
    (ChangeSpec.witness_shaped (enc := enc) (C := Tryz.checked) (os := os) (X := fun w _ => laidMetH Tryz.prog Rows.fnExactPreOfRow.laid w) false (World.laidAll Tryz.prog os Rows.fnExactPreOfRow.laid) #[.slice none 0 0, .slice none 0 0, .string ByteArray.empty] 8 (World.laidAll_os _ _ _) (World.shaped_of_ZipB (by kernel_rfl) (by kernel_rfl)) (by kernel_rfl) (by kernel_rfl) (by kernel_rfl) (by rw [MakeChecks.laidMetH_plain _ _ _ (by kernel_rfl)]; exact laidMet_laidAll _ (by kernel_rfl) (by kernel_rfl))) ?_
  intro W base args ds gs before hval0 hW _ _ hL _
  have hval : ∀ (j : Nat) t v, Tryz.f5.params[j]? = some t → args[j]? = some v → Value.okWide Tryz.prog W .any base t v := hval0
  have hW' := hW
  obtain ⟨p, q, hA0, hV, rfl, hfz, hnd⟩ := hW
  have hA : DataW.TrodAll enc Tryz.prog W 0 (fun _ => true) true Tryz.f5.params.toList args.toList ds p := hA0
  rw [Tryz.params5] at hA hval
  obtain ⟨v0, vs0, d0, ds0, p0, q0, hargs, rfl, rfl, h0, r0⟩ := trodAll_cons hA
  obtain ⟨v1, vs1, d1, ds1, p1, q1, rfl, rfl, rfl, h1, r1⟩ := trodAll_cons r0
  obtain ⟨v2, vs2, d2, ds2, p2, q2, rfl, rfl, rfl, h2, r2⟩ := trodAll_cons r1
  obtain ⟨rfl, rfl, rfl⟩ := trodAll_nil r2
  obtain rfl : args = #[v0, v1, v2] := by cases args; simp_all
  obtain ⟨rfl, rfl⟩ := trodVars_none hV
  obtain ⟨a0, len0, cap0, rfl⟩ := okWide_slice Tryz.underlying22 (hval 0 22 v0 rfl rfl)
  have k0 := h0
  have lt0 : ∀ x ∈ p0, x.block < W.heap.size := by obtain ⟨m, hm⟩ := k0; exact DataW.trod_lt m _ _ _ hm
  obtain ⟨ss0, rfl, w0, ft0, n0⟩ := openOB h0
  obtain ⟨a1, len1, cap1, rfl⟩ := okWide_slice Tryz.underlying41 (hval 1 41 v1 rfl rfl)
  have k1 := h1
  have lt1 : ∀ x ∈ p1, x.block < W.heap.size := by obtain ⟨m, hm⟩ := k1; exact DataW.trod_lt m _ _ _ hm
  obtain ⟨ss1, rfl, w1, ft1, n1⟩ := En.openOB h1
  obtain ⟨x2, rfl, rfl, rfl, w2⟩ := open_string Tryz.underlying9 (hval 2 9 v2 rfl rfl) h2
  obtain hTa := of_laid hL
  clear hA0 hval0
  refine (walk a0 cap0 ss0 a1 cap1 ss1 x2 W w0 ft0 n0 w1 ft1 n1 hTa (cellLtTa hTa)).mono fun e W' ⟨he, bel⟩ => ?_
  subst he
  exact ⟨_, rfl, _, _, _, [], _, [], hW', trodAll_mk1 (shut_bool Tryz.underlying4 _), (trodAll_cons_mk (Below.trod laidOut (by kernel_rfl) (of_decide_eq_true (by kernel_rfl)) k0 bel lt0) (trodAll_cons_mk (Below.trod laidOut (by kernel_rfl) (of_decide_eq_true (by kernel_rfl)) k1 bel lt1) (trodAll_cons_mk (shut_string Tryz.underlying9 w2) trodAll_mk0))), rfl, bel.frame _, fun h => by cases h⟩

theorem over : Rows.fnExactPreOfRow.holds Tryz.pinned (OpenSpec.ofChange Rows.fnExactPreOfSpec) :=
  OpenClaim.holds_of_wide 5 Tryz.f5 rfl rfl rfl rfl rfl rfl rfl ⟨rfl, rfl, rfl, rfl, rfl⟩ rfl rfl rfl rfl rfl (by kernel_rfl) Tryz.func5 (by kernel_rfl)
    (of_decide_eq_true (by kernel_rfl)) (by unfold Func.isWrapper; first | (rw [if_pos (by decide +kernel)]; kernel_rfl) | (rw [if_neg (by decide +kernel)]; exact ⟨rfl, rfl⟩))
    (fun os started H enc _ => lifted os started H enc)

theorem proved : Rows.FnExactPreOfCardSaid :=
  Claim7.holds_tied_plain_at .later [] [.data, .data, .data, .data, .pinned] true _ false
    over (fun _ h => by cases h) (by kernel_rfl) (fun _ h => by cases h) fnExactPreOf_row_tie rfl ⟨rfl, rfl⟩ (by kernel_rfl) rfl
    (fun f fn hf hfn => by
      obtain rfl : f = 5 := Option.some.inj ((show Tryz.prog.funcNamed "loop.example/g00172/laws.FnExactPreOf" = some 5 by kernel_rfl).symm.trans hf) |>.symm
      obtain rfl : fn = Tryz.f5 := (Option.some.inj (Tryz.func5.symm.trans hfn)).symm
      exact ⟨by kernel_rfl, fun j t ht => by
        rw [Tryz.params5] at ht
        have hm : t ∈ [22, 41, 9] := by simpa using Array.mem_of_getElem? ht
        have hall : ([22, 41, 9].all fun u => !Tryz.prog.wantsStandIn u) = true := by kernel_rfl
        exact (show Tryz.prog.wantsStandIn t = false by simpa using List.all_eq_true.1 hall t hm)⟩)
    (by kernel_rfl)
end Go.Proofs.YtmmccpdaklkciaaGreatDoor.PeLaw
namespace Go.Proofs.YtmmccpdaklkciaaGreatDoor
theorem fnExactPreOf_proved : Rows.FnExactPreOfCardSaid := PeLaw.proved
end Go.Proofs.YtmmccpdaklkciaaGreatDoor
