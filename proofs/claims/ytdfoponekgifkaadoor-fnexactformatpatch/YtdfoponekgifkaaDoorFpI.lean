/- FormatPatch of the program. No statement is proved here. -/
import Derived.Test.YtdfoponekgifkaaDoorRows
import Derived.Test.YtdfoponekgifkaaDoorLem
import Derived.Test.YtdfoponekgifkaaDoorStrs
import Derived.Test.YtdfoponekgifkaaDoorDTab
import Derived.Test.YtdfoponekgifkaaDoorOwn
import Derived.Test.YtdfoponekgifkaaDoorFr
import Derived.Test.YtdfoponekgifkaaDoorHkL
import Derived.Test.YtdfoponekgifkaaDoorHkT
import Derived.Test.YtdfoponekgifkaaDoorHfL
import Derived.Test.YtdfoponekgifkaaDoorHfC
import Derived.Test.YtdfoponekgifkaaDoorHfI
import Derived.Test.YtdfoponekgifkaaDoorFiC
import Derived.Test.YtdfoponekgifkaaDoorFpM
import Derived.Test.YtdfoponekgifkaaDoorBldG
import Derived.Test.YtdfoponekgifkaaDoorBldH
import Derived.Test.YtdfoponekgifkaaDoorPw
import Derived.Test.YtdfoponekgifkaaDoorPwS
import Derived.Test.YtdfoponekgifkaaDoorFpW
import Derived.WalkKit
import Derived.ProofKit
import Derived.Below
import Derived.WalkSpells
import Derived.RangeFuncRecord
set_option linter.unusedVariables false
namespace Go.Proofs.YtdfoponekgifkaaDoor.Fp
open Go.ChangeShapes Go.WideShapes Go.ChangeAt Go.RowKit
open Go.Proofs.YtdfoponekgifkaaDoor.Pw (PW)

/-- All lines of all hunks are short enough. -/
def TotH (l : List Hk) : Prop := ∀ h ∈ l, tot h.2.2 ≤ 1048576
theorem ret_tx {a b : Int} {s t : ByteArray} (h : a = b) (k : s = t) : Ending.returned (.agg #[.int .i64 a, .string s]) = .returned (.agg #[.int .i64 b, .string t]) := by rw [h, k]
theorem below2 {b : Nat} {w w' : World} (h : Below b w w') (x0 x1 : Value) : Below b w ((w'.setCell ⟨b, 0, none⟩ x0).setCell ⟨b, 1, none⟩ x1) := (h.setCell (p := ⟨b, 0, none⟩) (Nat.le_refl _) _).setCell (p := ⟨b, 1, none⟩) (Nat.le_refl _) _
theorem hbK {B b : Nat} {w w' : World} {a : Option Addr} {l : List Hk} (h : HB B w a l) (K : Ky (b + 1) b w w') (hB : B ≤ b) : HB B w' a l := fun k hk => by
  obtain ⟨g, off, ak, ck, e, hg, h0, h1, h2, h3⟩ := h k hk
  have kc : ∀ o v, w.cell? ⟨g, o, none⟩ = some v → w'.cell? ⟨g, o, none⟩ = some v := fun o v hv => ((K.kb.below (by omega)).cell (p := ⟨g, o, none⟩) (show g < b by omega)).trans hv
  exact ⟨g, off, ak, ck, e, hg, kc _ _ h0, kc _ _ h1, kc _ _ h2, ssbK h3 K hB⟩
theorem rfK {b p : Nat} {w w' : World} {vs : List Value} (h : Rf w p vs) (K : Ky (b + 1) b w w') (hp : p < b) : Rf w' p vs :=
  ⟨fun k v hk => ((K.kb.below (by omega)).cell (p := ⟨p, k, none⟩) hp).trans (h.at_ k v hk), fun k => ((K.kb.below (by omega)).frozen (p := ⟨p, k, none⟩) hp).trans (h.fz k)⟩
set_option maxRecDepth 20000 in
set_option maxHeartbeats 8000000 in
theorem implFormatPatch (a : Option Addr) (c : Nat) (l : List Hk) (w : World) (h : HB w.heap.size w a l) (hn : l.length ≤ 1048576) (hs : Shortly l) (ht : TotH l) (hTa : TaG w) (hg : 1 < w.heap.size) :
    Calls Tryd.prog 8 #[.slice a l.length c] w fun e w' => e = .returned (.agg #[.int .i64 (fpC l), .string (fpT l)]) ∧ Below w.heap.size w w' := by
  have hF := fun W h => implHunksFault a c l W h hn hs
  obtain ⟨p, hp⟩ : ∃ p, w.heap.size = p := ⟨_, rfl⟩
  rw [hp] at h hg
  obtain ⟨W1, hW1⟩ : ∃ W, w.alloc (.cells #[.int .i64 0, .string ⟨#[]⟩] 25) = W := ⟨_, rfl⟩
  have b1 : Below p w W1 := by rw [← hW1, ← hp]; exact allocBelow _ _
  have r1 : Rf W1 p [.int .i64 0, .string ⟨#[]⟩] := by rw [← hW1, ← hp]; exact Rf.new _ _ _
  have z1 : p < W1.heap.size := by rw [← hW1, ← hp]; simp
  have H1 : HB p W1 a l := h.below (by rw [hp]; exact b1)
  have fault := fun e => (fp_fault (l := l) e)
  have many := fun e k => (fp_many (l := l) e k)
  have good := fun e k => (fp_ok (l := l) e k)
  have all := fun e => hf_all (l := l) e
  obtain ⟨C, hC⟩ : ∃ C, fpC l = C := ⟨_, rfl⟩
  obtain ⟨T, hT⟩ : ∃ T, fpT l = T := ⟨_, rfl⟩
  obtain ⟨F, hFe⟩ : ∃ F, hf l = F := ⟨_, rfl⟩
  simp only [hC, hT, hFe] at fault many good all hF ⊢
  clear hC hT hFe
  have hF1 := hF W1 (H1.mono (by omega))
  go_enter Tryd.func8, Tryd.ntmps8
  go_wp2_with fail
  refine hF1.mono ?_; rintro e w2 ⟨rfl, b2⟩
  have B2 : Below p w w2 := b1.trans (b2.mono (by omega))
  have R2 := r1.below z1 b2
  have z2 : p < w2.heap.size := Nat.lt_of_lt_of_le z1 b2.size
  clear hF hF1 r1 z1 b1
  by_cases e0 : F = 0
  rotate_left
  · have HR : Hid (C = F ∧ T = ⟨#[]⟩) := fault e0
    have q : (F != 0) = true := by simp [e0]
    have d0 := R2.at_ 0 _ rfl
    have d1 := R2.at_ 1 _ rfl
    have f0 := R2.fz 0
    have f1 := R2.fz 1
    clear fault many good all e0
    go_wp2
    refine bodyPost_ret (v := .agg #[.int .i64 F, .string ⟨#[]⟩]) (by simp [results, Tryd.results8, go_sem, d0, d1]) rfl ?_
    rw [hp]
    exact ⟨ret_tx HR.out.1.symm HR.out.2.symm, below2 B2 _ _⟩
  subst e0
  obtain ⟨hl, hall⟩ := all rfl
  have HMany : Hid (8000 < (fpL l).length → C = 2 ∧ T = ⟨#[]⟩) := fun k => many rfl k
  have HGood : Hid (¬ 8000 < (fpL l).length → C = 0 ∧ T = ⟨(fpL l).toArray⟩) := fun k => good rfl k
  clear many good
  obtain ⟨W3, hW3⟩ : ∃ W, w2.alloc (.cells #[.pointer none, .slice none 0 0, .bool false] 51) = W := ⟨_, rfl⟩
  have b3 : Below w2.heap.size w2 W3 := by rw [← hW3]; exact allocBelow _ _
  have P3 : PW w2.heap.size [] W3 := by rw [← hW3]; exact PW.new w2
  have H3 : HB p W3 a l := (H1.below b2).below b3
  have R3 := R2.below z2 b3
  have B3 : Below p w W3 := B2.trans (b3.mono (by omega))
  have T3 : TaG W3 := hTa.below B3 hg
  obtain ⟨b, hb⟩ : ∃ b, w2.heap.size = b := ⟨_, rfl⟩
  rw [hb] at P3
  have pb : p < b := by omega
  have fz := fault
  clear fault all b2 B2 R2 H1 h hTa fz b3
  go_wp2
  go_loopw [6, 15] (fun _m i wr => ∃ k : Nat, k ≤ l.length ∧ i = .int .i64 k ∧ PW b (fpL (l.take k)) wr ∧ Ky (b + 1) b W3 wr) (fun _ i _ => l.length - (intOf i).toNat)
  case atStart => exact ⟨0, Nat.zero_le _, rfl, P3, Ky.refl _ _ _⟩
  case round =>
    obtain ⟨k, hk, rfl, PK, KK⟩ := hrel
    clear P3
    have Hr := hbK H3 KK (by omega)
    by_cases hlt : k < l.length
    · have qk : (k : Int) < (l.length : Int) := by omega
      obtain ⟨g, off, ak, ck, e, hg', d0, d1, d2, S⟩ := Hr k hlt
      subst e
      have hm : l.getD k hnil ∈ l := by rw [List.getD, List.getElem?_eq_getElem hlt]; exact List.getElem_mem hlt
      have hko := hall _ hm
      have htt := ht _ hm
      have eT := fp_take l k hlt
      have hC : l.getD k (0, 0, []) = l.getD k hnil := rfl
      rw [hC] at d0 d1 d2 S
      obtain ⟨x, hx⟩ : ∃ x, l.getD k hnil = x := ⟨_, rfl⟩
      obtain ⟨x0, x1, ss⟩ := x
      rw [hx] at d0 d1 d2 S hko htt eT
      simp only [] at d0 d1 d2 S hko htt eT
      have TA := taK T3 KK (by omega)
      obtain ⟨W5, hW5⟩ : ∃ W, wr.alloc (.cells #[.int .i64 x0, .int .i64 x1, .slice ak ss.length ck] 44) = W := ⟨_, rfl⟩
      have b5 : Below wr.heap.size wr W5 := by rw [← hW5]; exact allocBelow _ _
      have R5 : Rs W5 wr.heap.size [.int .i64 x0, .int .i64 x1, .slice ak ss.length ck] := by rw [← hW5]; exact Rs.new _ _ _
      have k5 := kyB b5 PK.lt
      have P5 := PK.below b5
      have S5 := ssbK S k5 (by omega : p ≤ b)
      have T5 := taK TA k5 (by omega)
      have e0 := R5 0 _ rfl
      have e1 := R5 1 _ rfl
      have e2 := R5 2 _ rfl
      have KN := KK.trans k5
      clear hx hm hC Hr TA S PK KK k5 b5 R5
      go_wp2_with fail
      refine (writeHunk b p _ x0 x1 ak ck ss _ P5 S5 (by omega) hko htt T5 (by omega)).mono ?_; rintro e w6 ⟨rfl, P6, k6⟩
      have K6 := KN.trans k6
      have HN : Hid (PW b (fpL (l.take (k + 1))) w6) := by rw [eT]; exact P6
      clear P5 S5 T5 P6 k6 KN e0 e1 e2 eT d0 d1 d2 hW5
      go_wp2
      go_roundw
      case rel => exact ⟨k + 1, by omega, by go_num, HN.out, K6⟩
      case measure => first | (simp [intOf]; omega) | simp [intOf]
    · have qk : ¬ (k : Int) < (l.length : Int) := by omega
      have PF : PW b (fpL l) wr := by
        have := PK
        rw [List.take_of_length_le (by omega)] at this
        exact this
      have RF := rfK R3 KK pb
      have BF : Below p w wr := B3.trans ((KK.kb.below (by omega)).mono (by omega))
      obtain ⟨pp, v, bs, hP, hA, hbs, hPe, hPn⟩ := PF.ex
      have c2 := hA.c2
      clear PK KK Hr H3 T3 R3 B3
      by_cases hbig : 8000 < (fpL l).length
      · have HR : Hid (C = 2 ∧ T = ⟨#[]⟩) := HMany.out hbig
        have q2 : decide (8000 < (fpL l).length) = true := decide_eq_true hbig
        rw [q2] at c2
        have d0 := RF.at_ 0 _ rfl
        have d1 := RF.at_ 1 _ rfl
        have f0 := RF.fz 0
        have f1 := RF.fz 1
        clear HMany HGood q2 hA hPe hPn PF
        go_wp2
        refine bodyPost_ret (v := .agg #[.int .i64 2, .string ⟨#[]⟩]) (by simp [results, Tryd.results8, go_sem, d0, d1]) rfl ?_
        try rw [hp]
        exact ⟨ret_tx HR.out.1.symm HR.out.2.symm, below2 BF _ _⟩
      · have HR : Hid (C = 0 ∧ T = ⟨(fpL l).toArray⟩) := HGood.out hbig
        have q2 : decide (8000 < (fpL l).length) = false := decide_eq_false hbig
        have hbe := hPe (by omega)
        rw [hbe, q2] at hA
        rw [q2] at c2
        have hSt : Calls Tryd.prog 22 #[.pointer (some ⟨b, 0, none⟩)] wr fun e w' => e = .returned (.string ⟨(fpL l).toArray⟩) ∧ Below (b + 1) wr w' := by
          by_cases h0 : fpL l = []
          · have hv := hPn h0
            rw [hv, h0] at hA
            rw [h0]
            exact Pw.stringNil b pp false wr hA
          · exact Pw.string3 b pp v false (fpL l) wr hA h0
        obtain ⟨X, hX⟩ : ∃ X : ByteArray, (⟨(fpL l).toArray⟩ : ByteArray) = X := ⟨_, rfl⟩
        rw [hX] at hSt HR
        clear HMany HGood q2 hA hPe hPn PF hbe hX
        go_wp2_with fail
        refine hSt.mono ?_; rintro e w7 ⟨rfl, b7⟩
        have R7 : Rf w7 p [.int .i64 0, .string ⟨#[]⟩] := ⟨fun j u hj => (b7.cell (p := ⟨p, j, none⟩) (show p < b + 1 by omega)).trans (RF.at_ j u hj), fun j => (b7.frozen (p := ⟨p, j, none⟩) (show p < b + 1 by omega)).trans (RF.fz j)⟩
        have B7 : Below p w w7 := BF.trans (b7.mono (by omega))
        have d0 := R7.at_ 0 _ rfl
        have d1 := R7.at_ 1 _ rfl
        have f0 := R7.fz 0
        have f1 := R7.fz 1
        clear hSt b7 RF BF R7 c2
        go_wp2
        refine bodyPost_ret (v := .agg #[.int .i64 0, .string X]) (by simp [results, Tryd.results8, go_sem, d0, d1]) rfl ?_
        try rw [hp]
        exact ⟨ret_tx HR.out.1.symm HR.out.2.symm, below2 B7 _ _⟩
end Go.Proofs.YtdfoponekgifkaaDoor.Fp
