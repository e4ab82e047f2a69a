/- What the laid variables of ParseIndex and of the laws on an index's text give a walk. No statement is proved here. -/
import Derived.Test.YtjcnnmnnbjaheaaGreatDoorRows
import Derived.Test.YtjcnnmnnbjaheaaGreatDoorLemQ
import Derived.Test.YtjcnnmnnbjaheaaGreatDoorTrWQ
import Derived.ProofKit
import Derived.ChangeSame
import Derived.ChangeVars
import Derived.JoinedOf
import Derived.RowKit
import Derived.RowKitTokens
import Derived.LaidLaws
import Derived.LaidHandle
import Derived.LaidMore
import Derived.OpenShut
import Derived.OpenVars
import Derived.Stop.Joined
import Derived.Lib.LaidTab
import Derived.Test.YtjcnnmnnbjaheaaGreatDoorDTabQ
import Derived.Test.YtjcnnmnnbjaheaaGreatDoorHkTQ
import Derived.Test.YtjcnnmnnbjaheaaGreatDoorLFLemQ
import Derived.Test.YtjcnnmnnbjaheaaGreatDoorFlLQ
import Derived.WalkKit
import Derived.Below
import Derived.WalkSpells
import Derived.Deep.QuietTactic
import Derived.BigQuiet
import Derived.Deep.RegionWith
import Derived.Deep.RegionHeld
namespace Go.Proofs.YtjcnnmnnbjaheaaGreatDoor.Xt
open Go.ChangeShapes Go.WideShapes Go.ChangeAt Go.RowKit

theorem gMw : Tryz.prog.globalNamed "loop.example/g00172/impl.modeWords" = some 0 := by kernel_rfl
theorem tMw : (Tryz.prog.globals[0]?).map (·.type) = some 77 := by kernel_rfl
theorem str_of {P : Program} {w : World} {sp : Nat → Bool} {m : Nat} {t : TypeId} {v : Value} {l : List UInt8} {q : List MemPlace} (ht : P.underlying t = some .string) (h : DataW.trod (fun _ => ()) P w 0 sp false m t [v] = some (.lit (.string l), q)) : v = .string ⟨l.toArray⟩ := by
  obtain ⟨s, e1, e2, _⟩ := DataW.trod_string ht h
  simp only [List.cons.injEq, and_true] at e1
  simp only [Prod.mk.injEq, DataW.lit.injEq, Lit.string.injEq] at e2
  rw [e1, e2.1]
theorem arr3 {P : Program} {w : World} {sp : Nat → Bool} {fuel : Nat} {t e : TypeId} {cs : Array Value} {l0 l1 l2 : List UInt8} {q : List MemPlace} (ht : P.underlying t = some (.array 3 e)) (he : P.underlying e = some .string) (ct : P.cellsOf t = 3) (ce : P.cellsOf e = 1)
    (hd : DataW.trod (fun _ => ()) P w 0 sp false fuel t cs.toList = some (.agg [.lit (.string l0), .lit (.string l1), .lit (.string l2)], q)) : cs = #[.string ⟨l0.toArray⟩, .string ⟨l1.toArray⟩, .string ⟨l2.toArray⟩] := by
  obtain ⟨xs, m1, rfl, hx1, hlen, hn3, hel⟩ := DataW.trod_array ht hd
  rw [ct] at hlen
  have h0 := hel 0 (by decide)
  have h1 := hel 1 (by decide)
  have h2 := hel 2 (by decide)
  rw [ce] at h0 h1 h2
  simp only [Prod.mk.injEq, DataW.agg.injEq] at hx1
  obtain ⟨c1⟩ := cs
  match c1, hlen, xs, hn3, hx1 with
  | [v0, v1, v2], _, [x0, x1, x2], _, hx1 =>
    simp only [List.map_cons, List.map_nil, List.cons.injEq, and_true] at hx1
    obtain ⟨⟨y0, y1, y2⟩, _⟩ := hx1
    obtain ⟨a0, b0⟩ := x0
    obtain ⟨a1, b1⟩ := x1
    obtain ⟨a2, b2⟩ := x2
    simp only [] at y0 y1 y2
    subst y0; subst y1; subst y2
    have z0 := str_of he (show DataW.trod (fun _ => ()) P w 0 _ false m1 e [v0] = some _ from h0)
    have z1 := str_of he (show DataW.trod (fun _ => ()) P w 0 _ false m1 e [v1] = some _ from h1)
    have z2 := str_of he (show DataW.trod (fun _ => ()) P w 0 _ false m1 e [v2] = some _ from h2)
    subst z0; subst z1; subst z2
    rfl
theorem mwG_of {W : World} {cs : Array Value} {fuel : Nat} {p : List MemPlace} (hv : W.var? Tryz.prog "loop.example/g00172/impl.modeWords" = some cs) (hd : DataW.trod (fun _ => ()) Tryz.prog W 0 (fun _ => true) false fuel 77 cs.toList = some (Rows.laid_loop_example_g00172_impl_modeWords, p)) : Te.MwG W := by
  have e := arr3 Tryz.underlying77 Tryz.underlying9 (by kernel_rfl) (by kernel_rfl) hd
  subst e
  have k0 := World.var?_cell gMw hv 0
  have k1 := World.var?_cell gMw hv 1
  have k2 := World.var?_cell gMw hv 2
  exact ⟨by simpa using k0, by simpa using k1, by simpa using k2⟩
theorem gTa : Tryz.prog.globalNamed "internal/strconv.uint64pow10" = some 1 := by kernel_rfl
theorem tTa : (Tryz.prog.globals[1]?).map (·.type) = some 133 := by kernel_rfl
theorem tab_of {P : Program} {W : World} {name : String} {k : IntKind} {zs : List Int} {t e : TypeId} {n : Nat} {cs : Array Value} {fuel : Nat} {p : List MemPlace}
    (ht : P.underlying t = some (.array n e)) (he : P.underlying e = some (.int k)) (hce : P.cellsOf e = 1) (hct : P.cellsOf t = n)
    (hv : W.var? P name = some cs) (hd : DataW.trod (fun _ => ()) P W 0 (fun _ => true) false fuel t cs.toList = some (Lib.tabData k zs, p)) : Lib.TabIs P W name k zs := by
  unfold Lib.TabIs
  rw [hv, ← Lib.cells_of_tab ht he hce hct hd]
theorem cellLtTa {W : World} (h : TaG W) : 1 < W.heap.size :=
  cellLt (h.cell gTa 0 (by decide))
theorem laid_gives {W : World} (h : laidMet Tryz.prog [("math/bits.deBruijn32tab", Rows.laid_math_bits_deBruijn32tab), ("math/bits.deBruijn64tab", Rows.laid_math_bits_deBruijn64tab), ("internal/strconv.uint64pow10", Lib.tabData .u64 Lib.pow10Tab), ("unicode/utf8.acceptRanges", Rows.laid_unicode_utf8_acceptRanges), ("loop.example/g00172/impl.modeWords", Rows.laid_loop_example_g00172_impl_modeWords), ("unicode/utf8.first", Rows.laid_unicode_utf8_first)] W) : TaG W ∧ Te.MwG W := by
  refine ⟨?_, ?_⟩
  · obtain ⟨ps, ⟨_, _, _, _, _, _, _, _, _, _, ⟨_, _, _, _, _, _, _, _, _, _, ⟨g1, t1, cs1, f1, p1, q1, hg1, ht1, hv1, hd1, _, _⟩, _⟩, _⟩, _, _⟩ := h
    obtain rfl := Option.some.inj (gTa.symm.trans hg1)
    obtain rfl := Option.some.inj (tTa.symm.trans ht1)
    exact tab_of Tryz.underlying133 Tryz.underlying121 (by kernel_rfl) (by kernel_rfl) hv1 hd1
  · obtain ⟨ps, ⟨_, _, _, _, _, _, _, _, _, _, ⟨_, _, _, _, _, _, _, _, _, _, ⟨_, _, _, _, _, _, _, _, _, _, ⟨_, _, _, _, _, _, _, _, _, _, ⟨g1, t1, cs1, f1, p1, q1, hg1, ht1, hv1, hd1, _, _⟩, _⟩, _⟩, _⟩, _⟩, _, _⟩ := h
    obtain rfl := Option.some.inj (gMw.symm.trans hg1)
    obtain rfl := Option.some.inj (tMw.symm.trans ht1)
    exact mwG_of hv1 hd1
theorem pi_laid {W : World} (h : laidMetH Tryz.prog Rows.fnExactParseIndexRow.laid W) : TaG W ∧ Te.MwG W := by
  rw [MakeChecks.laidMetH_plain _ _ _ (by kernel_rfl)] at h
  exact laid_gives h
theorem it_laid {W : World} (h : laidMetH Tryz.prog Rows.fnIndexTextsRow.laid W) : TaG W ∧ Te.MwG W := by
  rw [MakeChecks.laidMetH_plain _ _ _ (by kernel_rfl)] at h
  exact laid_gives h
end Go.Proofs.YtjcnnmnnbjaheaaGreatDoor.Xt
/- Lists of entries, of files held together by the law; a text that is not among others. No statement is proved here. -/
set_option linter.unusedVariables false
namespace Go.Proofs.YtjcnnmnnbjaheaaGreatDoor
open Go.ChangeShapes Go.WideShapes Go.ChangeAt Go.RowKit
theorem run_selfE (x0 x3 : ByteArray) (x1 x2 : Int) (w : World) : (Op.equalIn 10000 51 (.agg #[.string x0, .int .i64 x1, .int .i64 x2, .string x3]) (.agg #[.string x0, .int .i64 x1, .int .i64 x2, .string x3])).run Tryz.prog w = .ok true w := by
  have b0 : (x0.toList == x0.toList) = true := beq_bytes_true rfl
  have b3 : (x3.toList == x3.toList) = true := beq_bytes_true rfl
  go_simp
theorem run_selfF (x0 x2 : ByteArray) (x1 : Int) (w : World) : (Op.equalIn 10000 88 (.agg #[.string x0, .int .i64 x1, .string x2]) (.agg #[.string x0, .int .i64 x1, .string x2])).run Tryz.prog w = .ok true w := by
  have b0 : (x0.toList == x0.toList) = true := beq_bytes_true rfl
  have b2 : (x2.toList == x2.toList) = true := beq_bytes_true rfl
  go_simp
set_option maxRecDepth 20000 in
set_option maxHeartbeats 2000000 in
theorem lwEntriesC (a1 a2 : Option Addr) (c1 c2 : Nat) (l : List En.Ob) (w : World) (h1 : En.OB w.heap.size w a1 l) (h2 : En.OB w.heap.size w a2 l) (hn : l.length ≤ 1048576) :
    Calls Tryz.prog 12 #[.slice a1 l.length c1, .slice a2 l.length c2] w fun e w' => e = .returned (.bool true) ∧ ∃ n, w' = w.drewN n := by
  have hne : ((l.length : Int) != (l.length : Int)) = false := by simp
  go_enter Tryz.func12, Tryz.ntmps12
  go_wp2
  go_loopw [5] (fun vi wr => ∃ k : Nat, k ≤ l.length ∧ vi = .int .i64 (k : Int) ∧ ∃ nq, wr = w.drewN nq) (fun vi _ => l.length - (intOf vi).toNat)
  case atStart => exact ⟨0, Nat.zero_le _, rfl, 0, rfl⟩
  case round =>
    obtain ⟨k, hk, rfl, nr, hwr⟩ := hrel
    have HW : Hid (wr = w.drewN nr) := hwr
    by_cases hlt : k < l.length
    · have q : (k : Int) < (l.length : Int) := by omega
      obtain ⟨b1, o1, rfl, _, p0, p1, p2, p3⟩ := h1 k hlt
      obtain ⟨b2, o2, rfl, _, r0, r1, r2, r3⟩ := h2 k hlt
      obtain ⟨C, hC⟩ : ∃ C, l.getD k En.onil = C := ⟨_, rfl⟩
      obtain ⟨x0, x1, x2, x3⟩ := C
      rw [hC] at p0 p1 p2 p3 r0 r1 r2 r3
      simp only [] at p0 p1 p2 p3 r0 r1 r2 r3
      have hE := run_selfE x0 x3 x1 x2
      have P0 := (congrArg (fun u => World.cell? u _) hwr).trans p0
      have R0 := (congrArg (fun u => World.cell? u _) hwr).trans r0
      have P1 := (congrArg (fun u => World.cell? u _) hwr).trans p1
      have R1 := (congrArg (fun u => World.cell? u _) hwr).trans r1
      have P2 := (congrArg (fun u => World.cell? u _) hwr).trans p2
      have R2 := (congrArg (fun u => World.cell? u _) hwr).trans r2
      have P3 := (congrArg (fun u => World.cell? u _) hwr).trans p3
      have R3 := (congrArg (fun u => World.cell? u _) hwr).trans r3
      clear hC hwr p0 p1 p2 p3 r0 r1 r2 r3 h1 h2
      go_wp2_with fail
      go_quiet (fail)
      all_goals
        go_wp2_with fail
        go_roundw
        case rel => exact ⟨k + 1, by omega, by go_num, _, by rw [HW.out, World.drewN_drewN]⟩
        case measure => simp [intOf]; omega
    · have q : ¬ (k : Int) < (l.length : Int) := by omega
      clear hwr
      go_wp2_with fail
      go_ret
      exact ⟨rfl, nr, HW.out⟩
end Go.Proofs.YtjcnnmnnbjaheaaGreatDoor
