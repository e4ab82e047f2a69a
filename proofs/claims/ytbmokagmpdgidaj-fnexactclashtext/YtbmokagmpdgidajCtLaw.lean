/- Proved: at every chunk FnExactClashText returns true (ClashText answers as its specification, field by field, and changes no argument). No condition: FnExactClashTextSaid itself. -/
import Derived.Test.YtbmokagmpdgidajRows
import Derived.Test.YtbmokagmpdgidajLem
import Derived.Test.YtbmokagmpdgidajStrs
import Derived.Test.YtbmokagmpdgidajMarks
import Derived.Test.YtbmokagmpdgidajLFLem
import Derived.Test.YtbmokagmpdgidajLF
import Derived.Test.YtbmokagmpdgidajDTab
import Derived.Test.YtbmokagmpdgidajOwn
import Derived.Test.YtbmokagmpdgidajFr
import Derived.Test.YtbmokagmpdgidajIn
import Derived.Test.YtbmokagmpdgidajSameC
import Derived.Test.YtbmokagmpdgidajHkT
import Derived.Test.YtbmokagmpdgidajCkL
import Derived.Test.YtbmokagmpdgidajCkC
import Derived.Test.YtbmokagmpdgidajCkB
import Derived.Test.YtbmokagmpdgidajCkI
import Derived.Test.YtbmokagmpdgidajCkS
import Derived.Test.YtbmokagmpdgidajCkN
import Derived.Test.YtbmokagmpdgidajCkT
import Derived.Test.YtbmokagmpdgidajOpK
import Derived.Test.YtbmokagmpdgidajCtL
import Derived.Test.YtbmokagmpdgidajCtC
import Derived.Test.YtbmokagmpdgidajCtW
import Derived.Test.YtbmokagmpdgidajCtT
import Derived.Test.YtbmokagmpdgidajCtV
import Derived.Test.YtbmokagmpdgidajCtX
import Derived.WalkKit
import Derived.ProofKit
import Derived.OpenShut
import Derived.Below
import Derived.Carry
import Derived.Deep.RegionWith
import Derived.Deep.Cut
import Derived.Deep.CutRange
namespace Go.Proofs.Ytbmokagmpdgidaj.CtLaw
open Go.ChangeShapes Go.WideShapes Go.ChangeAt Go.RowKit

theorem beq_self (s : ByteArray) : (s.toList == s.toList) = true := beq_bytes_true rfl
set_option maxHeartbeats 400000 in
theorem eqTextResult (c : Int) (s : ByteArray) (w : World) :
    Calls Try.prog 32 #[.agg #[.int .i64 c, .string s], .agg #[.int .i64 c, .string s]] w fun e w' => e = .returned (.bool true) ∧ Below w.heap.size w w' := by
  have hb := beq_self s
  go_enter Try.func32, Try.ntmps32
  go_wp2
  go_ret
  exact ⟨rfl, ((Below.refl _ _).alloc (Nat.le_refl _) _).alloc (by simp) _⟩

set_option maxRecDepth 20000 in
set_option maxHeartbeats 4000000 in
theorem walk (x0 : Int) (a1 a2 a3 : Option Addr) (c1 c2 c3 : Nat) (x1 x2 x3 : List ByteArray) (w : World) (h1 : SS w a1 x1) (h2 : SS w a2 x2) (h3 : SS w a3 x3) (n1 : x1.length ≤ 9223372036854775807) (n2 : x2.length ≤ 9223372036854775807) (n3 : x3.length ≤ 9223372036854775807) :
    Calls Try.prog 7 #[.agg #[.int .i64 x0, .slice a1 x1.length c1, .slice a2 x2.length c2, .slice a3 x3.length c3]] w fun e w' => e = .returned (.bool true) ∧ Below w.heap.size w w' := by
  obtain ⟨W, hW⟩ : ∃ W, w.alloc (.cells #[.int .i64 x0, .slice a1 x1.length c1, .slice a2 x2.length c2, .slice a3 x3.length c3] 48) = W := ⟨_, rfl⟩
  have RB : Rs W w.heap.size [.int .i64 x0, .slice a1 x1.length c1, .slice a2 x2.length c2, .slice a3 x3.length c3] := by rw [← hW]; exact Rs.new _ _ _
  have BB : Below w.heap.size w W := by rw [← hW]; exact allocBelow _ _
  have zW : w.heap.size < W.heap.size := by rw [← hW]; simp
  have A1 : SSB w.heap.size W a1 x1 := h1.toB.below BB
  have A2 : SSB w.heap.size W a2 x2 := h2.toB.below BB
  have A3 : SSB w.heap.size W a3 x3 := h3.toB.below BB
  have dB0 := RB 0 _ rfl
  have dB1 := RB 1 _ rfl
  have dB2 := RB 2 _ rfl
  have dB3 := RB 3 _ rfl
  have hsz := szChunk x0 a1 a2 a3 c1 c2 c3 x1 x2 x3 1048576 W (A1.toSS (by omega)) (A2.toSS (by omega)) (A3.toSS (by omega)) n1 n2 n3 (by omega) (by omega)
  by_cases hx : leftK1 1048576 (x0, x1, x2, x3) < 0
  · go_enter Try.func7, Try.ntmps7
    go_wp2_with fail
    refine hsz.mono ?_; rintro e w1 ⟨rfl, b⟩
    have BB1 := BB.trans (b.mono BB.size)
    clear b
    go_wp2_with fail
    go_ret
    exact ⟨rfl, BB1⟩
  have hnum := (leftF_nums _ _ hx).2
  have ht1 := tot_nonneg x1
  have ht2 := tot_nonneg x2
  have ht3 := tot_nonneg x3
  have hL3 : allL [x1, x2, x3] = x1.length + (x2.length + x3.length) := by simp [allL]
  have hT3 : allT [x1, x2, x3] = tot x1 + (tot x2 + tot x3) := by simp [allT]
  have hnum2 : ((x1.length + (x2.length + x3.length) : Nat) : Int) + (tot x1 + (tot x2 + tot x3)) ≤ 1048576 := by rw [← hL3, ← hT3]; exact hnum
  have l1 : x1.length ≤ 1048576 := by omega
  have l2 : x2.length ≤ 1048576 := by omega
  have l3 : x3.length ≤ 1048576 := by omega
  have t1 : tot x1 ≤ 1048576 := by omega
  have t2 : tot x2 ≤ 1048576 := by omega
  have t3 : tot x3 ≤ 1048576 := by omega
  have z1 := h1.1
  have z2 := h2.1
  have z3 := h3.1
  have hS := fun (a1 a2 a3 : Option Addr) (c1 c2 c3 : Nat) W p q r => specClashText x0 a1 a2 a3 c1 c2 c3 x1 x2 x3 W p q r l1 l2 l3 t1 t2 t3
  have hI := fun (a1 a2 a3 : Option Addr) (c1 c2 c3 : Nat) W p q r => implClashText x0 a1 a2 a3 c1 c2 c3 x1 x2 x3 W p q r l1 l2 l3 t1 t2 t3
  have hT := fun W p q r => toChunk x0 a1 a2 a3 c1 c2 c3 x1 x2 x3 W p q r l1 l2 l3
  obtain ⟨C, hC⟩ : ∃ C, ctC x0 x1 x2 x3 = C := ⟨_, rfl⟩
  obtain ⟨T, hTe⟩ : ∃ T, ctT x0 x1 x2 x3 = T := ⟨_, rfl⟩
  rw [hC, hTe] at hS hI
  clear hC hTe hnum hnum2 hL3 hT3 h1 h2 h3 ht1 ht2 ht3
  go_enter Try.func7, Try.ntmps7
  go_wp2_with fail
  refine hsz.mono ?_; rintro e w1 ⟨rfl, b1⟩
  clear hsz hW
  clear dB0 dB1 dB2 dB3
  replace A1 := A1.below b1
  replace A2 := A2.below b1
  replace A3 := A3.below b1
  replace RB : Rs w1 _ _ := fun k v hk => Fr.zcell b1 (RB k v hk)
  replace BB := BB.trans (b1.mono (by omega))
  have sw1 := b1.size
  clear b1
  have dB0 := RB 0 _ rfl
  have dB1 := RB 1 _ rfl
  have dB2 := RB 2 _ rfl
  have dB3 := RB 3 _ rfl
  go_wp2_with fail
  refine (hT _ (A1.toSS (by omega)) (A2.toSS (by omega)) (A3.toSS (by omega))).mono ?_; rintro e w2 ⟨xg1, xg2, xg3, xz1, xz2, xz3, rfl, x1, x2, x3, b⟩
  clear dB0 dB1 dB2 dB3
  replace A1 := A1.below b
  replace A2 := A2.below b
  replace A3 := A3.below b
  replace RB : Rs w2 _ _ := fun k v hk => Fr.zcell b (RB k v hk)
  replace BB := BB.trans (b.mono (by omega))
  have sw2 := b.size
  clear b
  have dB0 := RB 0 _ rfl
  have dB1 := RB 1 _ rfl
  have dB2 := RB 2 _ rfl
  have dB3 := RB 3 _ rfl
  go_wp2_with fail
  refine (hS _ _ _ _ _ _ _ (ownSS x1 z1) (ownSS x2 z2) (ownSS x3 z3)).mono ?_; rintro e w3 ⟨rfl, b⟩
  clear x1 x2 x3
  clear dB0 dB1 dB2 dB3
  replace A1 := A1.below b
  replace A2 := A2.below b
  replace A3 := A3.below b
  replace RB : Rs w3 _ _ := fun k v hk => Fr.zcell b (RB k v hk)
  replace BB := BB.trans (b.mono (by omega))
  have sw3 := b.size
  clear b
  obtain ⟨W4, hW4⟩ : ∃ W, w3.alloc (.cells #[.int .i64 C, .string T] 51) = W := ⟨_, rfl⟩
  have Rp : Rs W4 w3.heap.size [.int .i64 C, .string T] := by rw [← hW4]; exact Rs.new _ _ _
  have bW4 : Below w3.heap.size w3 W4 := by rw [← hW4]; exact allocBelow _ _
  replace A1 := A1.below bW4
  replace A2 := A2.below bW4
  replace A3 := A3.below bW4
  replace RB : Rs W4 _ _ := fun k v hk => Fr.zcell bW4 (RB k v hk)
  replace BB := BB.trans (bW4.mono (by omega))
  have sW4 := bW4.size
  clear bW4
  have dB0 := RB 0 _ rfl
  have dB1 := RB 1 _ rfl
  have dB2 := RB 2 _ rfl
  have dB3 := RB 3 _ rfl
  go_wp2_with fail
  refine (hT _ (A1.toSS (by omega)) (A2.toSS (by omega)) (A3.toSS (by omega))).mono ?_; rintro e w5 ⟨g1, g2, g3, y1, y2, y3, rfl, X1, X2, X3, b⟩
  clear hW4
  clear dB0 dB1 dB2 dB3
  replace A1 := A1.below b
  replace A2 := A2.below b
  replace A3 := A3.below b
  replace RB : Rs w5 _ _ := fun k v hk => Fr.zcell b (RB k v hk)
  replace BB := BB.trans (b.mono (by omega))
  replace Rp : Rs w5 _ _ := fun k v hk => Fr.zcell b (Rp k v hk)
  have sw5 := b.size
  clear b
  obtain ⟨W6, hW6⟩ : ∃ W, w5.alloc (.cells #[.int .i64 x0, .slice (some ⟨g1, 0, none⟩) x1.length x1.length, .slice (some ⟨g2, 0, none⟩) x2.length x2.length, .slice (some ⟨g3, 0, none⟩) x3.length x3.length] 53) = W := ⟨_, rfl⟩
  have RX : Rs W6 w5.heap.size [.int .i64 x0, .slice (some ⟨g1, 0, none⟩) x1.length x1.length, .slice (some ⟨g2, 0, none⟩) x2.length x2.length, .slice (some ⟨g3, 0, none⟩) x3.length x3.length] := by rw [← hW6]; exact Rs.new _ _ _
  have bW6 : Below w5.heap.size w5 W6 := by rw [← hW6]; exact allocBelow _ _
  replace A1 := A1.below bW6
  replace A2 := A2.below bW6
  replace A3 := A3.below bW6
  replace RB : Rs W6 _ _ := fun k v hk => Fr.zcell bW6 (RB k v hk)
  replace BB := BB.trans (bW6.mono (by omega))
  replace Rp : Rs W6 _ _ := fun k v hk => Fr.zcell bW6 (Rp k v hk)
  replace X1 := X1.kept (grownOfBelow bW6 none) (blockCases _ _ fun _ _ e => by cases e)
  replace X2 := X2.kept (grownOfBelow bW6 none) (blockCases _ _ fun _ _ e => by cases e)
  replace X3 := X3.kept (grownOfBelow bW6 none) (blockCases _ _ fun _ _ e => by cases e)
  have sW6 := bW6.size
  clear bW6
  have dX0 := RX 0 _ rfl
  have dX1 := RX 1 _ rfl
  have dX2 := RX 2 _ rfl
  have dX3 := RX 3 _ rfl
  go_wp2_with fail
  refine (hI _ _ _ _ _ _ _ (ownSS X1 z1) (ownSS X2 z2) (ownSS X3 z3)).mono ?_; rintro e w7 ⟨rfl, b⟩
  clear hW6 dX0 dX1 dX2 dX3
  replace A1 := A1.below b
  replace A2 := A2.below b
  replace A3 := A3.below b
  replace RB : Rs w7 _ _ := fun k v hk => Fr.zcell b (RB k v hk)
  replace BB := BB.trans (b.mono (by omega))
  replace Rp : Rs w7 _ _ := fun k v hk => Fr.zcell b (Rp k v hk)
  replace X1 := X1.kept (grownOfBelow b none) (blockCases _ _ fun _ _ e => by cases e)
  replace X2 := X2.kept (grownOfBelow b none) (blockCases _ _ fun _ _ e => by cases e)
  replace X3 := X3.kept (grownOfBelow b none) (blockCases _ _ fun _ _ e => by cases e)
  replace RX : Rs w7 _ _ := fun k v hk => Fr.zcell b (RX k v hk)
  have sw7 := b.size
  clear b
  obtain ⟨W8, hW8⟩ : ∃ W, w7.alloc (.cells #[.int .i64 C, .string T] 51) = W := ⟨_, rfl⟩
  have Rq : Rs W8 w7.heap.size [.int .i64 C, .string T] := by rw [← hW8]; exact Rs.new _ _ _
  have bW8 : Below w7.heap.size w7 W8 := by rw [← hW8]; exact allocBelow _ _
  replace A1 := A1.below bW8
  replace A2 := A2.below bW8
  replace A3 := A3.below bW8
  replace RB : Rs W8 _ _ := fun k v hk => Fr.zcell bW8 (RB k v hk)
  replace BB := BB.trans (bW8.mono (by omega))
  replace Rp : Rs W8 _ _ := fun k v hk => Fr.zcell bW8 (Rp k v hk)
  replace X1 := X1.kept (grownOfBelow bW8 none) (blockCases _ _ fun _ _ e => by cases e)
  replace X2 := X2.kept (grownOfBelow bW8 none) (blockCases _ _ fun _ _ e => by cases e)
  replace X3 := X3.kept (grownOfBelow bW8 none) (blockCases _ _ fun _ _ e => by cases e)
  replace RX : Rs W8 _ _ := fun k v hk => Fr.zcell bW8 (RX k v hk)
  have sW8 := bW8.size
  clear bW8
  have dp0 := Rp 0 _ rfl
  have dp1 := Rp 1 _ rfl
  have dq0 := Rq 0 _ rfl
  have dq1 := Rq 1 _ rfl
  go_wp2_with fail
  refine (eqTextResult C T _).mono ?_; rintro e w9 ⟨rfl, b⟩
  clear hW8 dp0 dp1 dq0 dq1
  replace A1 := A1.below b
  replace A2 := A2.below b
  replace A3 := A3.below b
  replace RB : Rs w9 _ _ := fun k v hk => Fr.zcell b (RB k v hk)
  replace BB := BB.trans (b.mono (by omega))
  replace Rp : Rs w9 _ _ := fun k v hk => Fr.zcell b (Rp k v hk)
  replace X1 := X1.kept (grownOfBelow b none) (blockCases _ _ fun _ _ e => by cases e)
  replace X2 := X2.kept (grownOfBelow b none) (blockCases _ _ fun _ _ e => by cases e)
  replace X3 := X3.kept (grownOfBelow b none) (blockCases _ _ fun _ _ e => by cases e)
  replace RX : Rs w9 _ _ := fun k v hk => Fr.zcell b (RX k v hk)
  replace Rq : Rs w9 _ _ := fun k v hk => Fr.zcell b (Rq k v hk)
  have sw9 := b.size
  clear b
  have dB0 := RB 0 _ rfl
  have dB1 := RB 1 _ rfl
  have dB2 := RB 2 _ rfl
  have dB3 := RB 3 _ rfl
  have dX0 := RX 0 _ rfl
  have dX1 := RX 1 _ rfl
  have dX2 := RX 2 _ rfl
  have dX3 := RX 3 _ rfl
  go_upto_region 10 with fail
  go_cut [27] from 23 to 28 (fun s wx => s = .bool false ∧ Below w9.heap.size w9 wx)
  case first =>
    have BD : Below w9.heap.size w9 w9.drew := (Below.refl _ _).drew
    have zd : w9.drew.heap.size = w9.heap.size := rfl
    have AD1 := A1.below BD
    have AD2 := A2.below BD
    have AD3 := A3.below BD
    have XD1 := X1.kept (grownOfBelow BD none) (blockCases _ _ fun _ _ e => by cases e)
    have XD2 := X2.kept (grownOfBelow BD none) (blockCases _ _ fun _ _ e => by cases e)
    have XD3 := X3.kept (grownOfBelow BD none) (blockCases _ _ fun _ _ e => by cases e)
    have hX0 := dX0
    have hX1 := dX1
    have hX2 := dX2
    have hX3 := dX3
    go_region_with (first | (go_at_call 30; refine (hT _ (AD1.toSS (by rw [zd]; omega)) (AD2.toSS (by rw [zd]; omega)) (AD3.toSS (by rw [zd]; omega))).mono ?_; rintro e wt ⟨t1g, t2g, t3g, zt1, zt2, zt3, rfl, xt1, xt2, xt3, bt⟩; have hX0 := Fr.zcell bt hX0; have hX1 := Fr.zcell bt hX1; have hX2 := Fr.zcell bt hX2; have hX3 := Fr.zcell bt hX3; have Xt1 := (Fr.ofBelow (lo := 0) (hi := 0) bt).own XD1 (fun j _ => .inr (Nat.zero_le _)); have Xt2 := (Fr.ofBelow (lo := 0) (hi := 0) bt).own XD2 (fun j _ => .inr (Nat.zero_le _)); have Xt3 := (Fr.ofBelow (lo := 0) (hi := 0) bt).own XD3 (fun j _ => .inr (Nat.zero_le _))) | (go_at_call 33; refine (eqChunk x0 _ _ _ _ _ _ _ _ _ _ _ _ x1 x2 x3 _ (ownSS Xt1 z1) (ownSS Xt2 z2) (ownSS Xt3 z3) (ownSS xt1 z1) (ownSS xt2 z2) (ownSS xt3 z3) l1 l2 l3).mono ?_; rintro e wu ⟨rfl, bu⟩))
    all_goals (go_wp2_with fail; go_meet; exact ⟨rfl, below_step (BD.trans bt) (by have := bt.size; omega) bu⟩)
  case rest =>
  obtain ⟨rfl, b⟩ := hcut
  replace BB := BB.trans (b.mono (by omega))
  clear dB0 dB1 dB2 dB3 dX0 dX1 dX2 dX3 b
  go_wp2_with fail
  go_ret
  exact ⟨rfl, BB⟩

set_option linter.unusedVariables false
theorem laidOut : laidOutB Try.prog = true := by kernel_rfl
theorem own : ownKnob Try.prog.godebug = none := by kernel_rfl
set_option maxRecDepth 100000 in
theorem lifted (os : Os) (started : os.Started) (H : Type) (enc : TypeId × Value → H) :
    ReturnsInHanded {} Try.checked os 7 .any (Rows.fnExactClashTextSpec.pre6 enc Try.prog Try.f7 Rows.fnExactClashTextRow.domain false) (Rows.fnExactClashTextSpec.post enc Try.prog Try.f7 false true false false) := by
  refine returnsInHanded_of_change (C := Try.checked) own started (by kernel_rfl) Try.func7
    (ChangeSpec.witness6 (enc := enc) (C := Try.checked) false ⟨#[], #[.agg #[.int .i64 0, .slice none 0 0, .slice none 0 0, .slice none 0 0]], []⟩ 8 (by kernel_rfl) (by kernel_rfl) (by kernel_rfl) (by kernel_rfl)) ?_
  intro W base args ds gs before hval0 hW hcnd _
  have hval : ∀ (j : Nat) t v, Try.f7.params[j]? = some t → args[j]? = some v → Value.okWide Try.prog W .any base t v := hval0
  have hW' := hW
  obtain ⟨p, q, hA0, hV, rfl, hfz, hnd⟩ := hW
  have hA : DataW.TrodAll enc Try.prog W 0 (fun _ => true) true Try.f7.params.toList args.toList ds p := hA0
  rw [Try.params7] at hA hval
  obtain ⟨v0, vs0, d0, ds0, p0, q0, hargs, rfl, rfl, h0, r0⟩ := trodAll_cons hA
  obtain ⟨rfl, rfl, rfl⟩ := trodAll_nil r0
  obtain rfl : args = #[v0] := by cases args; simp_all
  obtain ⟨rfl, rfl⟩ := trodVars_none hV
  obtain ⟨cs, rfl, hcs⟩ := okWide_struct Try.underlying48 (hval 0 48 v0 rfl rfl)
  have k0 := h0
  have lt0 : ∀ x ∈ p0, x.block < W.heap.size := by obtain ⟨m, hm⟩ := k0; exact DataW.trod_lt m _ _ _ hm
  obtain ⟨K, a1, a2, a3, c1, c2, c3, hcc, hS, m1, m2, m3⟩ : ∃ (C : Ck) (a1 a2 a3 : Option Addr) (c1 c2 c3 : Nat), cs.toList = [.int .i64 C.1, .slice a1 C.2.1.length c1, .slice a2 C.2.2.1.length c2, .slice a3 C.2.2.2.length c3] ∧ (SSN W.heap.size W a1 c1 C.2.1 ∧ SSN W.heap.size W a2 c2 C.2.2.1 ∧ SSN W.heap.size W a3 c3 C.2.2.2) ∧ C.2.1.length ≤ 9223372036854775807 ∧ C.2.2.1.length ≤ 9223372036854775807 ∧ C.2.2.2.length ≤ 9223372036854775807 := by
    obtain ⟨m, hm⟩ := k0
    exact openCk hm lt0
  obtain ⟨x0, x1, x2, x3⟩ := K
  obtain ⟨S1, S2, S3⟩ := hS
  obtain rfl : cs = #[.int .i64 x0, .slice a1 x1.length c1, .slice a2 x2.length c2, .slice a3 x3.length c3] := by
    cases cs; simp_all
  clear hA0 hval0
  refine (walk x0 a1 a2 a3 c1 c2 c3 x1 x2 x3 W (S1.1.toSS (Nat.le_refl _)) (S2.1.toSS (Nat.le_refl _)) (S3.1.toSS (Nat.le_refl _)) m1 m2 m3).mono fun e W' ⟨he, bel⟩ => ?_
  subst he
  exact ⟨_, rfl, _, _, _, [], _, [], hW', trodAll_mk1 (shut_bool Try.underlying4 _), (trodAll_cons_mk (Below.trod laidOut (by kernel_rfl) (of_decide_eq_true (by kernel_rfl)) k0 bel lt0) trodAll_mk0), rfl, bel.frame _, fun h => by cases h⟩

theorem over : Rows.fnExactClashTextRow.holds Try.pinned (OpenSpec.ofChange Rows.fnExactClashTextSpec) :=
  OpenClaim.holds_of_wide 7 Try.f7 rfl rfl rfl rfl rfl rfl rfl ⟨rfl, rfl, rfl, rfl, rfl⟩ rfl rfl rfl rfl rfl (by kernel_rfl) Try.func7 (by kernel_rfl)
    (of_decide_eq_true (by kernel_rfl)) (by unfold Func.isWrapper; first | (rw [if_pos (by decide +kernel)]; kernel_rfl) | (rw [if_neg (by decide +kernel)]; exact ⟨rfl, rfl⟩))
    (fun os started H enc _ => lifted os started H enc)

theorem proved : Rows.FnExactClashTextSaid := over
end Go.Proofs.Ytbmokagmpdgidaj.CtLaw
namespace Go.Proofs.Ytbmokagmpdgidaj
theorem fnExactClashText_proved : Rows.FnExactClashTextSaid := CtLaw.proved
end Go.Proofs.Ytbmokagmpdgidaj
