/- The contract of find. No statement is proved here. -/
import Derived.Test.YtlgeoaepjghdhaaRows
import Derived.Test.YtlgeoaepjghdhaaShF
import Derived.WalkKit
import Derived.ProofKit
import Derived.Below
import Derived.WalkSpells
import Derived.Laws.Cover1
import Derived.Deep.RegionWith
import Derived.Deep.RegionHeld
import Derived.Deep.CutRange
namespace Go.Proofs.Ytlgeoaepjghdhaa
open Go.ChangeShapes Go.WideShapes Go.ChangeAt Go.RowKit

theorem ret_find {x0 x2 y0 y2 : ByteArray} {x1 y1 : Int} {b d : Bool} (h : ((x0, x1, x2) : Ob) = (y0, y1, y2)) (k : b = d) : Ending.returned (.tuple #[.agg #[.string x0, .int .i64 x1, .string x2], .bool b]) = .returned (.tuple #[.agg #[.string y0, .int .i64 y1, .string y2], .bool d]) := by
  simp only [Prod.mk.injEq] at h
  rw [h.1, h.2.1, h.2.2, k]

set_option maxRecDepth 20000 in
set_option maxHeartbeats 2000000 in
theorem findNo (p : Nat) (kd : Int) (id : ByteArray) (w : World) (hid : idB id.data.toList = false) :
    Calls Try.prog 93 #[.pointer (some ⟨p, 0, none⟩), .int .i64 kd, .string id] w fun e w' => e = .returned (.tuple #[.agg #[.string ⟨#[]⟩, .int .i64 0, .string ⟨#[]⟩], .bool false]) ∧ Below w.heap.size w w' := by
  have hI := fun w => implIsId id w
  rw [hid] at hI
  obtain ⟨W0, hW0⟩ : ∃ W, w.alloc (.cells #[.string ⟨#[]⟩, .int .i64 0, .string ⟨#[]⟩] 100) = W := ⟨_, rfl⟩
  have b0 : Below w.heap.size w W0 := by rw [← hW0]; exact allocBelow _ _
  have R0 : Rf W0 w.heap.size [.string ⟨#[]⟩, .int .i64 0, .string ⟨#[]⟩] := by rw [← hW0]; exact Rf.new _ _ _
  have d0 := R0.at_ 0 _ rfl
  have d1 := R0.at_ 1 _ rfl
  have d2 := R0.at_ 2 _ rfl
  have f0 := R0.fz 0
  have f1 := R0.fz 1
  have f2 := R0.fz 2
  have HB : Hid (Below w.heap.size w (set3 W0 w.heap.size (.string ⟨#[]⟩) (.int .i64 0) (.string ⟨#[]⟩))) := below3 b0 (Nat.le_refl _) _ _ _
  clear R0 b0
  go_enter Try.func93, Try.ntmps93
  go_wp2_with fail
  refine (hI _).mono ?_; rintro e w2 ⟨rfl, rfl⟩
  go_wp2
  refine bodyPost_ret (v := .tuple #[.agg #[.string ⟨#[]⟩, .int .i64 0, .string ⟨#[]⟩], .bool false]) (by simp [results, Try.results93, go_sem, d0, d1, d2]) rfl ?_
  exact ⟨rfl, HB.out⟩

theorem threeKeep {u : World} {p b o : Nat} {v0 v1 v2 x : Value} (hc : u.cell? ⟨b, o, none⟩ = some x) (h : b < p) : (((u.setCell ⟨p, 0, none⟩ v0).setCell ⟨p, 1, none⟩ v1).setCell ⟨p, 2, none⟩ v2).cell? ⟨b, o, none⟩ = some x := by
  rw [World.cell?_setCell_other _ _ _ _ (by intro c; simp only [Addr.mk.injEq] at c; omega), World.cell?_setCell_other _ _ _ _ (by intro c; simp only [Addr.mk.injEq] at c; omega), World.cell?_setCell_other _ _ _ _ (by intro c; simp only [Addr.mk.injEq] at c; omega)]
  exact hc
/-- What find's region leaves. -/
def FindMid (w : World) (ok : Bool) (v0 v2 : ByteArray) (v1 : Int) (s v : Value) (wx : World) : Prop := ∃ q : Nat, s = .pointer (some ⟨q, 0, none⟩) ∧ v = .bool ok ∧ w.heap.size < q ∧ q < wx.heap.size ∧ Rf wx q [.string v0, .int .i64 v1, .string v2] ∧ Rf wx w.heap.size [.string ⟨#[]⟩, .int .i64 0, .string ⟨#[]⟩] ∧ Below w.heap.size w wx
theorem FindMid.new {w w2 w3 : World} {ok : Bool} {v0 v2 : ByteArray} {v1 : Int} {t : TypeId} (z : w2.heap.size = w.heap.size + 1) (B : Below w.heap.size w w2) (b4 : Below w2.heap.size w2 w3) (R : Rf w2 w.heap.size [.string ⟨#[]⟩, .int .i64 0, .string ⟨#[]⟩]) :
    FindMid w ok v0 v2 v1 (.pointer (some ⟨w3.heap.size, 0, none⟩)) (.bool ok) (w3.alloc (.cells #[.string v0, .int .i64 v1, .string v2] t)) := by
  have := b4.size
  exact ⟨_, rfl, rfl, by omega, by simp, Rf.new _ _ _, (R.below (by omega) b4).below (by omega) (allocBelow _ _), (B.trans (b4.mono (by omega))).trans ((allocBelow _ _).mono (by omega))⟩
theorem FindMid.sets {w w2 w3 : World} {ok : Bool} {v0 v2 : ByteArray} {v1 : Int} (z : w2.heap.size = w.heap.size + 1) (B : Below w.heap.size w w2) (b4 : Below w2.heap.size w2 w3) (hz : w2.heap.size < w3.heap.size) (R : Rf w2 w.heap.size [.string ⟨#[]⟩, .int .i64 0, .string ⟨#[]⟩]) (y : Rf w3 w2.heap.size [.string ⟨#[]⟩, .int .i64 0, .string ⟨#[]⟩]) :
    FindMid w ok v0 v2 v1 (.pointer (some ⟨w2.heap.size, 0, none⟩)) (.bool ok) (((w3.setCell ⟨w2.heap.size, 0, none⟩ (.string v0)).setCell ⟨w2.heap.size, 1, none⟩ (.int .i64 v1)).setCell ⟨w2.heap.size, 2, none⟩ (.string v2)) := by
  refine ⟨_, rfl, rfl, by omega, by simpa using hz, ?_, (R.below (by omega) b4).three (k := w2.heap.size) (by omega) _ _ _, below3 (B.trans (b4.mono (by omega))) (by omega) _ _ _⟩
  exact ((y.set (o := 0) (by simp) (.string v0)).set (o := 1) (by simp) (.int .i64 v1)).set (o := 2) (by simp) (.string v2)
theorem newObj {w2 w3 : World} {t : TypeId} (b : Below ((w2.alloc (.cells #[.string ⟨#[]⟩, .int .i64 0, .string ⟨#[]⟩] t)).drew).heap.size ((w2.alloc (.cells #[.string ⟨#[]⟩, .int .i64 0, .string ⟨#[]⟩] t)).drew) w3) :
    Rf w3 w2.heap.size [.string ⟨#[]⟩, .int .i64 0, .string ⟨#[]⟩] ∧ Below w2.heap.size w2 w3 ∧ w2.heap.size < w3.heap.size := by
  have e : ((w2.alloc (.cells #[.string ⟨#[]⟩, .int .i64 0, .string ⟨#[]⟩] t)).drew).heap.size = w2.heap.size + 1 := by show (w2.alloc _).heap.size = _; simp
  have h := b.size
  exact ⟨(Rf.new w2 #[.string ⟨#[]⟩, .int .i64 0, .string ⟨#[]⟩] t).drewM.below (by rw [e]; omega) b, (below_drew (allocBelow _ _)).trans (b.mono (by omega)), by omega⟩

set_option maxRecDepth 20000 in
set_option maxHeartbeats 2000000 in
theorem findId (p b : Nat) (l : List Ob) (x v0 v2 : _) (v1 : Int) (ok B : Bool) (r0 r2 : ByteArray) (r1 : Int) (kd : Int) (id : ByteArray) (w : World) (hid : idB id.data.toList = true) (hR : Rf w p [.map (some b), x]) (hp : p < w.heap.size) (hS : Sh w b l)
    (hlk : ∀ w, Sh w b l → (Instr.lookup 139 (.map (some b)) (kv id) true).run Try.prog w = .ok (.tuple #[.agg #[.string v0, .int .i64 v1, .string v2], .bool ok]) w)
    (hyes : ok = true → v1 = kd → B = true ∧ r0 = v0 ∧ r1 = v1 ∧ r2 = v2) (hno : ok = false ∨ ¬ v1 = kd → B = false ∧ r0 = ⟨#[]⟩ ∧ r1 = 0 ∧ r2 = ⟨#[]⟩) :
    Calls Try.prog 93 #[.pointer (some ⟨p, 0, none⟩), .int .i64 kd, .string id] w fun e w' => e = .returned (.tuple #[.agg #[.string r0, .int .i64 r1, .string r2], .bool B]) ∧ Below w.heap.size w w' := by
  have hI := fun w => implIsId id w
  rw [hid] at hI
  obtain ⟨n0, n1, n2, n3, n4, hkv⟩ := kv_ints id
  have hKO := fun w => keyOfC id w (idB_size hid)
  rw [hkv] at hKO hlk
  obtain ⟨W0, hW0⟩ : ∃ W, w.alloc (.cells #[.string ⟨#[]⟩, .int .i64 0, .string ⟨#[]⟩] 100) = W := ⟨_, rfl⟩
  have b0 : Below w.heap.size w W0 := by rw [← hW0]; exact allocBelow _ _
  have z0 : W0.heap.size = w.heap.size + 1 := by rw [← hW0]; simp
  have R0 : Rf W0 w.heap.size [.string ⟨#[]⟩, .int .i64 0, .string ⟨#[]⟩] := by rw [← hW0]; exact Rf.new _ _ _
  have S0 := hS.below b0
  have p0 := hR.below hp b0
  have c0 := p0.at_ 0 _ rfl
  have HZ0 : Hid (W0.heap.size = w.heap.size + 1) := z0
  have hp2 : p < W0.heap.size := by omega
  clear hR hS z0
  go_enter Try.func93, Try.ntmps93
  go_wp2_with fail
  refine (hI _).mono ?_; rintro e w2 ⟨rfl, rfl⟩
  clear hI hW0
  go_wp2
  go_cut [8, 9] from 14 to 23 (fun s v wx => FindMid w ok v0 v2 v1 s v wx)
  case first =>
    go_region_held (fun w' => w'.cell? ⟨p, 0, none⟩ = some (.map (some b))) (first | with_reducible exact t0 | exact c0 | exact zcell (allocBelow _ _) c0 | exact zcell (allocBelow _ _) t0 | (have q3 := b4.size; with_reducible refine threeKeep t0 ?_ <;> omega) | (have q3 := b4.size; with_reducible refine threeKeep (zcell (allocBelow _ _) t0) ?_ <;> omega) | (go_keep; done))
      (first | (go_at_call 116; refine (hKO _).mono ?_; rintro e w3 ⟨rfl, b3⟩; (first | (obtain ⟨y3, b4, z4⟩ := newObj b3; have d0 := y3.at_ 0 _ rfl; have d1 := y3.at_ 1 _ rfl; have d2 := y3.at_ 2 _ rfl; have f0 := y3.fz 0; have f1 := y3.fz 1; have f2 := y3.fz 2) | (have b4 : Below w2.heap.size w2 w3 := (below_drew (Below.refl _ _)).trans b3)); have t0 := zcell b4 c0; have S3 := Sh.below S0 b4; have L0 := hlk _ S3; have L1 := fun o => hlk _ (Sh.below S3 (allocBelow w3 o))))
    all_goals
      clear L0 L1 S3 t0 c0 hlk hKO hyes hno S0 p0
      go_wp2_with fail
      go_meet
      first | exact FindMid.new HZ0.out b0 b4 R0 | exact FindMid.sets HZ0.out b0 b4 z4 R0 y3
  case rest =>
    obtain ⟨q, rfl, rfl, hq1, hq2, hQ, hR, hB⟩ := hcut
    have d0 := hR.at_ 0 _ rfl
    have d1 := hR.at_ 1 _ rfl
    have d2 := hR.at_ 2 _ rfl
    have f0 := hR.fz 0
    have f1 := hR.fz 1
    have f2 := hR.fz 2
    have k0 := hQ.at_ 0 _ rfl
    have k1 := hQ.at_ 1 _ rfl
    have k2 := hQ.at_ 2 _ rfl
    have HB : ∀ a0 a1 a2, Hid (Below w.heap.size w (((wc.setCell ⟨w.heap.size, 0, none⟩ a0).setCell ⟨w.heap.size, 1, none⟩ a1).setCell ⟨w.heap.size, 2, none⟩ a2)) := fun a0 a1 a2 => below3 hB (Nat.le_refl _) _ _ _
    clear hR hQ hB hlk hKO S0 p0 R0 b0 c0
    cases ok with
    | false =>
      have hx := hno (.inl rfl)
      clear hno hyes
      obtain ⟨rfl, rfl, rfl, rfl⟩ := hx
      go_wp2
      refine bodyPost_ret (v := .tuple #[.agg #[.string ⟨#[]⟩, .int .i64 0, .string ⟨#[]⟩], .bool false]) (by simp [results, Try.results93, go_sem, d0, d1, d2]) rfl ?_
      exact ⟨rfl, (HB _ _ _).out⟩
    | true =>
      by_cases hk : v1 = kd
      · have hx := hyes rfl hk
        clear hno hyes
        obtain ⟨rfl, rfl, rfl, rfl⟩ := hx
        have qk : (r1 != kd) = false := by simp [hk]
        clear hk
        go_wp2
        refine bodyPost_ret (v := .tuple #[.agg #[.string r0, .int .i64 r1, .string r2], .bool true]) (by simp [results, Try.results93, go_sem, d0, d1, d2]) rfl ?_
        exact ⟨rfl, (HB _ _ _).out⟩
      · have hx := hno (.inr hk)
        clear hno hyes
        obtain ⟨rfl, rfl, rfl, rfl⟩ := hx
        have qk : (v1 == kd) = false := by simp [hk]
        have qk2 : (v1 != kd) = true := by simp [hk]
        clear hk
        go_wp2
        refine bodyPost_ret (v := .tuple #[.agg #[.string ⟨#[]⟩, .int .i64 0, .string ⟨#[]⟩], .bool false]) (by simp [results, Try.results93, go_sem, d0, d1, d2]) rfl ?_
        exact ⟨rfl, (HB _ _ _).out⟩
end Go.Proofs.Ytlgeoaepjghdhaa
