/- The contract of impl.DiffFiles. No statement is proved here. -/
import Derived.Test.YtkgcpndnlefkoaaGreatDoorRows
import Derived.Test.YtkgcpndnlefkoaaGreatDoorLemQ
import Derived.Test.YtkgcpndnlefkoaaGreatDoorDTabQ
import Derived.Test.YtkgcpndnlefkoaaGreatDoorInQ
import Derived.Test.YtkgcpndnlefkoaaGreatDoorLFLemQ
import Derived.Test.YtkgcpndnlefkoaaGreatDoorShelfQ
import Derived.Test.YtkgcpndnlefkoaaGreatDoorFfCQ
import Derived.Test.YtkgcpndnlefkoaaGreatDoorFfIQ
import Derived.Test.YtkgcpndnlefkoaaGreatDoorDfMQ
import Derived.Test.YtkgcpndnlefkoaaGreatDoorDfBQ
import Derived.Test.YtkgcpndnlefkoaaGreatDoorShelfCQ
import Derived.Test.YtkgcpndnlefkoaaGreatDoorDfPQ
import Derived.Test.YtkgcpndnlefkoaaGreatDoorDfQQ
import Derived.Test.YtkgcpndnlefkoaaGreatDoorDfGQ
import Derived.Test.YtkgcpndnlefkoaaGreatDoorShelfZQ
import Derived.Test.YtkgcpndnlefkoaaGreatDoorDlLQ
import Derived.Test.YtkgcpndnlefkoaaGreatDoorPfSQ
import Derived.Test.YtkgcpndnlefkoaaGreatDoorDfSQ
import Derived.WalkKit
import Derived.ProofKit
import Derived.Below
import Derived.WalkSpells
import Derived.Deep.QuietTactic
import Derived.BigQuiet
import Derived.Deep.RegionWith
import Derived.Deep.RegionHeld
import Derived.Deep.RegionLaw
import Derived.Deep.CutRange
import Derived.Maps.AppendAt
import Derived.Laws.BitsLemmas
import Derived.Laws.Cover1
set_option linter.unusedVariables false
namespace Go.Proofs.YtkgcpndnlefkoaaGreatDoor.Fl
open Go.ChangeShapes Go.WideShapes Go.ChangeAt Go.RowKit

theorem step_callD {ops : Array Oper} {o : Oper} {a : Act} {w : World} {K : Act → World → Prop} {Q : Exit → Act → World → Prop} {E : Prop}
    (hg : o.guard = none) (f : FuncId) (hf : ∀ vs w, (callFunc f vs).run Tryz.prog w = .ok (.enter f vs) w) (x1 : Operand) (ts : Array TypeId) (hop : o.op = Op.call { callee := Callee.value (Operand.func f), args := #[x1], argTypes := ts })
    (v1 : Value) (h1 : a.eval x1 = v1) {P : Ending → World → Prop} (hc : Calls Tryz.prog f #[v1] w P) (hK : ∀ e w', P e w' → ∃ v, e = .returned v ∧ K (a.put o.dst v) w') :
    if Region.wanted o (yielded ops a.tmps) = true then Oper.wp Tryz.prog o a w K Q else E := by
  have hw : Region.wanted o (yielded ops a.tmps) = true := by simp [Region.wanted, hg]
  rw [if_pos hw]
  have hrun : (execOp a.eval o).run Tryz.prog w = .ok (.enter f #[v1]) w := by
    simp [execOp, hop, resolve, invoke, go_sem, hf]
    cases x1 with | tmp t => simpa [Act.eval] using h1 | const v => exact h1 | global g => exact h1 | func f => exact h1
  unfold Oper.wp
  rw [hrun, Oper.upon_enter]
  refine hc.mono ?_
  intro e w' hp
  obtain ⟨v, rfl, hk⟩ := hK e w' hp
  exact hk
theorem enterCl : ∀ vs w, (callFunc 15 vs).run Tryz.prog w = .ok (.enter 15 vs) w := fun vs w => by
  have h1 : (Tryz.f15.name == "runtime.NumGoroutine") = false := by kernel_rfl
  have hb : Tryz.f15.body.isNone = false := by kernel_rfl
  have h2 : ¬ Tryz.f15.name = "runtime.NumGoroutine" := by simpa using h1
  have h3 : ¬ Tryz.f15.body = none := fun e => by rw [e] at hb; cases hb
  simp [callFunc, Tryz.func15, h2, h3]
theorem enterCf : ∀ vs w, (callFunc 16 vs).run Tryz.prog w = .ok (.enter 16 vs) w := fun vs w => by
  have h1 : (Tryz.f16.name == "runtime.NumGoroutine") = false := by kernel_rfl
  have hb : Tryz.f16.body.isNone = false := by kernel_rfl
  have h2 : ¬ Tryz.f16.name = "runtime.NumGoroutine" := by simpa using h1
  have h3 : ¬ Tryz.f16.body = none := fun e => by rw [e] at hb; cases hb
  simp [callFunc, Tryz.func16, h2, h3]
theorem ps_small {la lb : List Ob} (sa : SmallO la) (sb : SmallO lb) : ∀ p ∈ ps (pths la lb), p.size ≤ 1048576 := fun p hp => by
  have h := ((ps_both _).2 p).1 hp
  unfold pths at h
  rcases List.mem_append.1 h with q | q
  · obtain ⟨o, ho, rfl⟩ := List.mem_map.1 q; exact (sa o ho).1
  · obtain ⟨o, ho, rfl⟩ := List.mem_map.1 q; exact (sb o ho).1
theorem fa_small {l : List Ob} (s : SmallO l) (p : ByteArray) : (fa l p).1.size ≤ 1048576 ∧ (fa l p).2.2.size ≤ 1048576 := by
  unfold fa
  cases h : l.find? (fun f => decide (f.1 = p)) with
  | none => exact ⟨by decide, by decide⟩
  | some o => exact s o (List.mem_of_find?_eq_some h)
theorem getD_small {Q : List ByteArray} (h : ∀ p ∈ Q, p.size ≤ 1048576) : ∀ k, k < Q.length → (Q.getD k ByteArray.empty).size ≤ 1048576 := fun k hk => by
  apply h
  rw [List.getD, List.getElem?_eq_getElem hk]
  exact List.getElem_mem _
set_option maxRecDepth 20000 in
set_option maxHeartbeats 16000000 in
theorem implDiffFiles (a b : Option Addr) (ca cb : Nat) (la lb : List Ob) (w : World) (ha : OB w.heap.size w a la) (hb : OB w.heap.size w b lb) (za : a = none → ca = 0) (zb : b = none → cb = 0) (sa : SmallO la) (sb : SmallO lb) (na : la.length ≤ 1048576) (nb : lb.length ≤ 1048576) :
    Calls Tryz.prog 6 #[.slice a la.length ca, .slice b lb.length cb] w fun e w' => DE la lb w e w' := by
  obtain ⟨i0, hi, hz0, hz1, hz2⟩ := info_parts Dl.infoObj
  obtain ⟨W1, hW1⟩ : ∃ W, w.alloc (.cells #[.int .i64 0, .slice none 0 0] 29) = W := ⟨_, rfl⟩
  have b1 : Below w.heap.size w W1 := by rw [← hW1]; exact allocBelow _ _
  have zW : W1.heap.size = w.heap.size + 1 := by rw [← hW1]; simp
  have r1 : Rf W1 w.heap.size [.int .i64 0, .slice none 0 0] := by rw [← hW1]; exact Rf.new _ _ _
  have A1 := (ha.below b1).mono b1.size
  have hA := implFilesFault a ca la W1 A1 sa (by omega)
  have hB := fun W (h : Below w.heap.size w W) => implFilesFault b cb lb W ((hb.below h).mono h.size) sb (by omega)
  have hBadA : ¬ ffl la = 0 → ∀ w', Below w.heap.size w w' → DE la lb w (.returned (.agg #[.int .i64 (ffl la), .slice none 0 0])) w' := fun h w' hb => by
    have e : dfR la lb = ffl la := if_neg h
    have k := de_bad (la := la) (lb := lb) (w := w) (w' := w') (by rw [e]; exact h) hb
    rw [e] at k; exact k
  have hBadB : ffl la = 0 → ¬ ffl lb = 0 → ∀ w', Below w.heap.size w w' → DE la lb w (.returned (.agg #[.int .i64 (ffl lb), .slice none 0 0])) w' := fun h0 h w' hb => by
    have e : dfR la lb = ffl lb := if_pos h0
    have k := de_bad (la := la) (lb := lb) (w := w) (w' := w') (by rw [e]; exact h) hb
    rw [e] at k; exact k
  have hOk : ffl la = 0 → ffl lb = 0 → ∀ v L z w', L = dfA la lb (ps (pths la lb)) → w'.ownsRow z 47 7 v L.length (Dl.ocells L) → w.heap.size ≤ z → Below w.heap.size w w' → DE la lb w (.returned (.agg #[.int .i64 0, v])) w' := fun h0 h1 v L z w' => by
    have e : dfR la lb = 0 := by unfold dfR; rw [if_pos h0]; exact h1
    exact de_ok e
  have hRa : ffl la = 0 → Rise la ∧ la.length ≤ 60 := fun h => ⟨ffl_rise h, (ffl_each h).1⟩
  have hRb : ffl lb = 0 → Rise lb ∧ lb.length ≤ 60 := fun h => ⟨ffl_rise h, (ffl_each h).1⟩
  obtain ⟨FA, hFA⟩ : ∃ F, ffl la = F := ⟨_, rfl⟩
  obtain ⟨FB, hFB⟩ : ∃ F, ffl lb = F := ⟨_, rfl⟩
  simp only [hFA, hFB] at hA hB hBadA hBadB hOk hRa hRb
  clear hFA hFB A1
  go_enter Tryz.func6, Tryz.ntmps6
  go_wp2_with fail
  refine hA.mono ?_; rintro e w2 ⟨rfl, b2⟩
  rw [zW] at b2
  have r2 : Rf w2 w.heap.size [.int .i64 0, .slice none 0 0] := rfBelowAt r1 b2 (by omega)
  have B2 : Below w.heap.size w w2 := b1.trans (b2.mono (by omega))
  have z2 : w.heap.size + 1 ≤ w2.heap.size := by have := b2.size; omega
  have hB2 := hB w2 B2
  clear hA hB b1 b2 r1 hW1
  by_cases h0 : FA = 0
  rotate_left
  · have qn : (FA != 0) = true := ne_beq h0
    clear hOk hRa hRb hBadB hB2 ha hb
    have c0 := r2.at_ 0 _ rfl
    have c1 := r2.at_ 1 _ rfl
    have k0 := r2.fz 0
    have k1 := r2.fz 1
    have RV := (r2.set (o := 0) (by simp) (.int .i64 FA)).set (o := 1) (by simp) (.slice none 0 0)
    have BV := (B2.setCell (p := ⟨w.heap.size, 0, none⟩) (Nat.le_refl _) (.int .i64 FA)).setCell (p := ⟨w.heap.size, 1, none⟩) (Nat.le_refl _) (.slice none 0 0)
    obtain ⟨V, hV⟩ : ∃ V, (w2.setCell ⟨w.heap.size, 0, none⟩ (.int .i64 FA)).setCell ⟨w.heap.size, 1, none⟩ (.slice none 0 0) = V := ⟨_, rfl⟩
    rw [hV] at RV BV
    have HV : Hid (_ = V) := hV
    have v0 := RV.at_ 0 _ rfl
    have v1 := RV.at_ 1 _ rfl
    have HS := hBadA h0 V BV
    clear hV RV BV r2 B2
    go_wp2
    rw [HV.out]
    refine bodyPost_ret (v := .agg #[.int .i64 FA, .slice none 0 0]) (by simp [results, Tryz.results6, go_sem, v0, v1]) rfl ?_
    exact HS
  subst h0
  clear hBadA
  go_wp2_with fail
  refine hB2.mono ?_; rintro e w3 ⟨rfl, b3⟩
  have r3 : Rf w3 w.heap.size [.int .i64 0, .slice none 0 0] := rfBelowAt r2 b3 (by omega)
  have B3 : Below w.heap.size w w3 := B2.trans (b3.mono (by omega))
  have z3 : w.heap.size + 1 ≤ w3.heap.size := by have := b3.size; omega
  clear hB2 b3 r2 B2
  by_cases h1 : FB = 0
  rotate_left
  · have qn : (FB != 0) = true := ne_beq h1
    clear hOk hRa hRb ha hb
    have c0 := r3.at_ 0 _ rfl
    have c1 := r3.at_ 1 _ rfl
    have k0 := r3.fz 0
    have k1 := r3.fz 1
    have RV := (r3.set (o := 0) (by simp) (.int .i64 FB)).set (o := 1) (by simp) (.slice none 0 0)
    have BV := (B3.setCell (p := ⟨w.heap.size, 0, none⟩) (Nat.le_refl _) (.int .i64 FB)).setCell (p := ⟨w.heap.size, 1, none⟩) (Nat.le_refl _) (.slice none 0 0)
    obtain ⟨V, hV⟩ : ∃ V, (w3.setCell ⟨w.heap.size, 0, none⟩ (.int .i64 FB)).setCell ⟨w.heap.size, 1, none⟩ (.slice none 0 0) = V := ⟨_, rfl⟩
    rw [hV] at RV BV
    have HV : Hid (_ = V) := hV
    have v0 := RV.at_ 0 _ rfl
    have v1 := RV.at_ 1 _ rfl
    have HS := hBadB (by trivial) h1 V BV
    clear hV RV BV r3 B3
    go_wp2
    rw [HV.out]
    refine bodyPost_ret (v := .agg #[.int .i64 FB, .slice none 0 0]) (by simp [results, Tryz.results6, go_sem, v0, v1]) rfl ?_
    exact HS
  subst h1
  clear hBadB
  replace hOk := hOk (by trivial) (by trivial)
  obtain ⟨hra, na1⟩ := hRa (by trivial)
  obtain ⟨hrb, nb1⟩ := hRb (by trivial)
  clear hRa hRb
  obtain ⟨W4, hW4⟩ : ∃ W, w3.alloc (.cells #[.slice a la.length ca, .slice b lb.length cb] 24) = W := ⟨_, rfl⟩
  have b4 : Below w3.heap.size w3 W4 := by rw [← hW4]; exact allocBelow _ _
  have r4 : Rf W4 w3.heap.size [.slice a la.length ca, .slice b lb.length cb] := by rw [← hW4]; exact Rf.new _ _ _
  have z4 : W4.heap.size = w3.heap.size + 1 := by rw [← hW4]; simp
  have B4 : Below w.heap.size w W4 := B3.trans (b4.mono (by omega))
  have A4 : OB w.heap.size W4 a la := ha.below B4
  have C4 : OB w.heap.size W4 b lb := hb.below B4
  have hPa : Calls Tryz.prog 13 #[.slice (some ⟨w3.heap.size, 0, none⟩) 2 2] W4 fun e w' => QV (ps (pths la lb)) W4 e w' := by
    have k := pathsOfC w3.heap.size 2 [(a, ca, la), (b, cb, lb)] W4 (by simp) (fun k hk => by
      rcases (show k = 0 ∨ k = 1 from by have : k < 2 := hk; omega) with rfl | rfl
      · exact r4.at_ 0 _ rfl
      · exact r4.at_ 1 _ rfl) (by omega) (fun k hk => by
      rcases (show k = 0 ∨ k = 1 from by have : k < 2 := hk; omega) with rfl | rfl
      · exact A4.mono B4.size
      · exact C4.mono B4.size) (fun k hk => by
      rcases (show k = 0 ∨ k = 1 from by have : k < 2 := hk; omega) with rfl | rfl
      · exact za
      · exact zb) (by simp [allOf]; omega)
    have hAll : (allOf [(a, ca, la), (b, cb, lb)]).map (·.1) = pths la lb := by simp [allOf, pths]
    rw [hAll] at k
    exact k
  unfold QV at hPa
  have hSm := getD_small (ps_small sa sb)
  have hQl : (ps (pths la lb)).length ≤ 1000000 := by have := ps_len (pths la lb); unfold pths at this; rw [List.length_append, List.length_map, List.length_map] at this; unfold pths; omega
  obtain ⟨QQ, hQQ⟩ : ∃ Q, ps (pths la lb) = Q := ⟨_, rfl⟩
  simp only [hQQ] at hPa hOk hSm hQl
  have r04 : Rf W4 w.heap.size [.int .i64 0, .slice none 0 0] := rfBelowAt r3 b4 (by omega)
  have HW4 : Hid (_ = W4) := hW4
  clear hQQ hW4 b4 r4 r3 B3 ha hb
  go_wp2_with fail
  rw [HW4.out]
  refine hPa.mono ?_; rintro e w5 ⟨aQ, cQ, rfl, oQ, b5⟩
  have dQ : ∀ k, k < QQ.length → ∃ g, aQ = some ⟨g, 0, none⟩ ∧ g < w5.heap.size ∧ w5.cell? ⟨g, k, none⟩ = some (.string (QQ.getD k ByteArray.empty)) := fun k hk => by
    rcases oQ.2 with ⟨_, h0⟩ | ⟨g, cap, cur, e, hb, hg, _⟩
    · omega
    · cases e
      refine ⟨g, rfl, (Array.getElem?_eq_some_iff.1 hg).1, ?_⟩
      rw [oQ.cellAt k (by omega)]
      simp [List.getD, hk]
  have r5 : Rf w5 w.heap.size [.int .i64 0, .slice none 0 0] := rfBelowAt r04 b5 (by omega)
  have A5 : OB w.heap.size w5 a la := belowAt A4 b5 (by omega)
  have C5 : OB w.heap.size w5 b lb := belowAt C4 b5 (by omega)
  have B5 : Below w.heap.size w w5 := B4.trans (b5.mono (by omega))
  have z5 : w.heap.size + 1 ≤ w5.heap.size := by have := b5.size; omega
  clear hPa oQ b5 r04 A4 C4 B4 HW4 z4 z3 z2 zW
  go_wp2
  go_loopw [29, 7] (fun i v wr => ∃ (k : Nat) (L : List (ByteArray × Ob × Ob)), k ≤ QQ.length ∧ i = .int .i64 k ∧ wr.ownsRow w5.heap.size 47 7 v L.length (Dl.ocells L) ∧ Below w5.heap.size w5 wr ∧ L = dfA la lb (QQ.take k)) (fun i _ _ => QQ.length - (intOf i).toNat)
  case atStart => exact ⟨0, [], Nat.zero_le _, rfl, Dl.nilD _ _, Below.refl _ _, by simp [dfA]⟩
  case round =>
    obtain ⟨k, L, hk, rfl, hown, hbel, hLe⟩ := hrel
    have HLe : Hid (L = dfA la lb (QQ.take k)) := hLe
    have zr : w5.heap.size ≤ wr.heap.size := hbel.size
    have hLl : L.length ≤ 1000000 := by rw [hLe]; have := dfA_len la lb (QQ.take k); rw [List.length_take] at this; omega
    clear hLe
    by_cases hlt : k < QQ.length
    rotate_left
    · have q0 : ¬ (k : Int) < (QQ.length : Int) := by omega
      have ek : QQ.take k = QQ := List.take_of_length_le (by omega)
      have HL2 : Hid (L = dfA la lb QQ) := by have := HLe.out; rwa [ek] at this
      have rw9 : Rf wr w.heap.size [.int .i64 0, .slice none 0 0] := rfBelowAt r5 hbel (by omega)
      have Bw : Below w.heap.size w wr := B5.trans (hbel.mono (by omega))
      obtain ⟨av, cv, rfl⟩ := shapeK3 hown
      have c0 := rw9.at_ 0 _ rfl
      have c1 := rw9.at_ 1 _ rfl
      have k0 := rw9.fz 0
      have k1 := rw9.fz 1
      have RV := (rw9.set (o := 0) (by simp) (.int .i64 0)).set (o := 1) (by simp) (.slice av L.length cv)
      have BV := (Bw.setCell (p := ⟨w.heap.size, 0, none⟩) (Nat.le_refl _) (.int .i64 0)).setCell (p := ⟨w.heap.size, 1, none⟩) (Nat.le_refl _) (.slice av L.length cv)
      have oV := hown.kept (grownTrans (grownSet _ w.heap.size 0 (.int .i64 0)) (grownSet _ w.heap.size 1 (.slice av L.length cv))) (blockCases _ _ fun j q1 q2 => by cases q2; have := (hown.lt _ q1).1; omega)
      obtain ⟨V, hV⟩ : ∃ V, (wr.setCell ⟨w.heap.size, 0, none⟩ (.int .i64 0)).setCell ⟨w.heap.size, 1, none⟩ (.slice av L.length cv) = V := ⟨_, rfl⟩
      rw [hV] at RV BV oV
      have HS : Hid (DE la lb w (.returned (.agg #[.int .i64 0, .slice av L.length cv])) V) := hOk _ L w5.heap.size V HL2.out oV (by omega) BV
      have HV : Hid (_ = V) := hV
      have v0 := RV.at_ 0 _ rfl
      have v1 := RV.at_ 1 _ rfl
      clear hV RV BV oV rw9 hown hbel HL2 hOk r5 A5 C5 B5 Bw dQ
      go_wp2
      rw [HV.out]
      refine bodyPost_ret (v := .agg #[.int .i64 0, .slice av L.length cv]) (by simp [results, Tryz.results6, go_sem, v0, v1]) rfl ?_
      exact HS.out
    have q0 : (k : Int) < (QQ.length : Int) := by omega
    obtain ⟨gQ, rfl, hgQ, d0⟩ := dQ k hlt
    have dk := (hbel.cell (p := ⟨gQ, k, none⟩) hgQ).trans d0
    have hps := hSm k hlt
    have hSame := fun e => dfA_same (a := la) (b := lb) (Q := QQ) hlt e
    have hMore := fun e => dfA_more (a := la) (b := lb) (Q := QQ) hlt e
    obtain ⟨p, hp⟩ : ∃ p, QQ.getD k ByteArray.empty = p := ⟨_, rfl⟩
    rw [hp] at dk hps
    simp only [hp] at hSame hMore
    have hFa := fun W (b : Below w5.heap.size w5 W) => fileAtC a ca la p W ((belowAt A5 b (by omega)).mono (by have := b.size; omega)) (by omega) hra
    have hFb := fun W (h : Below w5.heap.size w5 W) => fileAtC b cb lb p W ((belowAt C5 h (by omega)).mono (by have := h.size; omega)) (by omega) hrb
    have hfs := fa_small sa p
    have hgs := fa_small sb p
    obtain ⟨F, hF⟩ : ∃ F, fa la p = F := ⟨_, rfl⟩
    obtain ⟨G, hG⟩ : ∃ G, fa lb p = G := ⟨_, rfl⟩
    obtain ⟨f0, f1, f2⟩ := F
    obtain ⟨g0, g1, g2⟩ := G
    simp only [hF, hG] at hFa hFb hSame hMore hfs hgs
    unfold fv at hFa hFb
    simp only [] at hFa hFb
    have hCp := fun W => cloneS p W (by omega)
    have hCf := fun W => cloneFileC (f0, f1, f2) W hfs.1 hfs.2
    have hCg := fun W => cloneFileC (g0, g1, g2) W hgs.1 hgs.2
    simp only [] at hCf hCg
    clear hF hG hp hOk dQ d0 A5 C5 r5
    go_wp2_with fail
    refine (hFa wr hbel).mono ?_; rintro e wa ⟨rfl, ba⟩
    have Ba : Below w5.heap.size w5 wa := hbel.trans (ba.mono zr)
    have owna := hown.kept (grownOfBelow ba none) (blockCases _ _ fun b c1 c2 => by cases c2)
    have za' : w5.heap.size ≤ wa.heap.size := Ba.size
    clear hown hFa hbel ba dk
    go_wp2_with fail
    refine (hFb wa Ba).mono ?_; rintro e wb ⟨rfl, bb⟩
    have Bb : Below w5.heap.size w5 wb := Ba.trans (bb.mono za')
    have ownb := owna.kept (grownOfBelow bb none) (blockCases _ _ fun b c1 c2 => by cases c2)
    have zb' : w5.heap.size ≤ wb.heap.size := Bb.size
    clear owna hFb Ba bb
    obtain ⟨Wd, hWd⟩ : ∃ W, (wb.alloc (.cells #[.string f0, .int .i64 f1, .string f2] 42)).alloc (.cells #[.string g0, .int .i64 g1, .string g2] 42) = W := ⟨_, rfl⟩
    have bd : Below wb.heap.size wb Wd := by rw [← hWd]; exact ((Below.refl _ _).alloc (Nat.le_refl _) _).alloc (by simp) _
    have zd : Wd.heap.size = wb.heap.size + 2 := by rw [← hWd]; simp
    have rA : Rf Wd wb.heap.size [.string f0, .int .i64 f1, .string f2] := by
      rw [← hWd]; exact (Rf.new wb #[.string f0, .int .i64 f1, .string f2] 42).below (by simp) (allocBelow _ _)
    have rB : Rf Wd (wb.heap.size + 1) [.string g0, .int .i64 g1, .string g2] := by
      have q := Rf.new (wb.alloc (.cells #[.string f0, .int .i64 f1, .string f2] 42)) #[.string g0, .int .i64 g1, .string g2] 42
      rw [hWd, World.size_alloc] at q
      exact q
    have Bd : Below w5.heap.size w5 Wd := Bb.trans (bd.mono zb')
    have ownd := ownb.kept (grownOfBelow bd none) (blockCases _ _ fun b c1 c2 => by cases c2)
    have m0 := rA.at_ 0 _ rfl
    have m1 := rA.at_ 1 _ rfl
    have m2 := rA.at_ 2 _ rfl
    have m3 := rB.at_ 0 _ rfl
    have m4 := rB.at_ 1 _ rfl
    have m5 := rB.at_ 2 _ rfl
    clear ownb bd Bb
    by_cases hE : ((f0, f1, f2) : Ob) = (g0, g1, g2)
    · have fq := fun w => ef_yes hE w
      have HL : Hid (L = dfA la lb (QQ.take (k + 1))) := by show _ = _; rw [hSame hE]; exact HLe.out
      have HO : Hid (World.ownsRow _ _ _ _ _ _ _) := ownd
      have HB : Hid (Below w5.heap.size w5 Wd) := Bd
      clear hSame hMore HLe ownd Bd hE rA rB hCp hCf hCg
      go_wp2
      go_roundw
      case rel => exact ⟨k + 1, L, by omega, by go_num, HO.out, HB.out, HL.out⟩
      case measure => first | (simp [intOf]; omega) | simp [intOf]
    · have fq := fun w => ef_no hE w
      have HL : Hid (L ++ [(p, (f0, f1, f2), (g0, g1, g2))] = dfA la lb (QQ.take (k + 1))) := by show _ = _; rw [hMore hE, HLe.out]
      clear hSame hMore HLe hE
      have hS6 : ∀ W, Below Wd.heap.size Wd W → (W.cell? ⟨wb.heap.size, 0, none⟩ = some (.string f0) ∧ W.cell? ⟨wb.heap.size, 1, none⟩ = some (.int .i64 f1) ∧ W.cell? ⟨wb.heap.size, 2, none⟩ = some (.string f2) ∧ W.cell? ⟨wb.heap.size + 1, 0, none⟩ = some (.string g0) ∧ W.cell? ⟨wb.heap.size + 1, 1, none⟩ = some (.int .i64 g1) ∧ W.cell? ⟨wb.heap.size + 1, 2, none⟩ = some (.string g2)) := fun W b => ⟨(b.cell (p := ⟨wb.heap.size, 0, none⟩) (by dsimp only; omega)).trans (rA.at_ 0 _ rfl), (b.cell (p := ⟨wb.heap.size, 1, none⟩) (by dsimp only; omega)).trans (rA.at_ 1 _ rfl), (b.cell (p := ⟨wb.heap.size, 2, none⟩) (by dsimp only; omega)).trans (rA.at_ 2 _ rfl), (b.cell (p := ⟨wb.heap.size + 1, 0, none⟩) (by dsimp only; omega)).trans (rB.at_ 0 _ rfl), (b.cell (p := ⟨wb.heap.size + 1, 1, none⟩) (by dsimp only; omega)).trans (rB.at_ 1 _ rfl), (b.cell (p := ⟨wb.heap.size + 1, 2, none⟩) (by dsimp only; omega)).trans (rB.at_ 2 _ rfl)⟩
      have BDr : Below Wd.heap.size Wd Wd.drew := below_drewT
      have zDr : Wd.heap.size ≤ Wd.drew.heap.size := Nat.le_refl _
      have hD := hS6 Wd.drew BDr
      obtain ⟨n0, n1, n2, n3, n4, n5⟩ := hD
      clear rA rB
      go_wp2_with fail
      go_region_law (first
        | (refine step_callD rfl 15 enterCl (.tmp 43) _ rfl _ rfl (hCp Wd.drew) ?_; rintro e w8 ⟨rfl, b8⟩; refine ⟨_, rfl, ?_⟩; have B8 := BDr.trans (b8.mono zDr); obtain ⟨e0, e1, e2, e3, e4, e5⟩ := hS6 w8 B8)
        | (refine step_callD rfl 16 enterCf (.tmp 45) _ rfl _ rfl (hCf w8) ?_; rintro e w9 ⟨rfl, b9⟩; refine ⟨_, rfl, ?_⟩; have B9 := B8.trans (b9.mono B8.size); obtain ⟨i0, i1, i2, i3, i4, i5⟩ := hS6 w9 B9)
        | (refine step_callD rfl 16 enterCf (.tmp 47) _ rfl _ rfl (hCg w9) ?_; rintro e w10 ⟨rfl, b10⟩; refine ⟨_, rfl, ?_⟩; have B10 := B9.trans (b10.mono B9.size); have B11 := B10.trans ((allocBelow w10 (.cells #[.string p, .string f0, .int .i64 f1, .string f2, .string g0, .int .i64 g1, .string g2] 47)).mono B10.size); have own11 := ownd.kept (grownOfBelow B11 none) (blockCases _ _ fun b c1 c2 => by cases c2); have nD := Dl.newE w10 (p, (f0, f1, f2), (g0, g1, g2)); have Z11 : Below w5.heap.size w5 (w10.alloc (.cells #[.string p, .string f0, .int .i64 f1, .string f2, .string g0, .int .i64 g1, .string g2] 47)) := Bd.trans (B11.mono Bd.size); have z11 := Z11.size)
        | (refine stepApp rfl (.tmp 42) (.tmp 50) 27 rfl w5.heap.size 47 _ (.agg #[.string ⟨#[]⟩, .string ⟨#[]⟩, .int .i64 0, .string ⟨#[]⟩, .string ⟨#[]⟩, .int .i64 0, .string ⟨#[]⟩]) 7 96 Tryz.underlying27 hi hz0 hz1 hz2 rfl (by decide) _ _ _ rfl own11 ⟨w10.heap.size, 0, none⟩ 1 1 (Dl.ocells [(p, (f0, f1, f2), (g0, g1, g2))]) rfl (Dl.ocells_length _) nD (Dl.oneE _) (by unfold maxLen; omega) (by omega) z11 ?_; intro v12 w12 o12 g12 _))
      all_goals
        have HO : Hid (w12.ownsRow w5.heap.size 47 7 v12 (L ++ [(p, (f0, f1, f2), (g0, g1, g2))]).length (Dl.ocells (L ++ [(p, (f0, f1, f2), (g0, g1, g2))]))) := by
          show World.ownsRow _ _ _ _ _ _ _
          rw [List.length_append, Dl.ocells_app]; exact o12
        have HB : Hid (Below w5.heap.size w5 w12) := Z11.grown g12 z11 (fun j hj => (own11.lt j hj).1)
        clear o12 g12 own11 Z11 B11 B10 B9 B8 ownd Bd nD
        go_wp2
        go_roundw
        case rel => exact ⟨k + 1, L ++ [(p, (f0, f1, f2), (g0, g1, g2))], by omega, by go_num, HO.out, HB.out, HL.out⟩
        case measure => first | (simp [intOf]; omega) | simp [intOf]
end Go.Proofs.YtkgcpndnlefkoaaGreatDoor.Fl
