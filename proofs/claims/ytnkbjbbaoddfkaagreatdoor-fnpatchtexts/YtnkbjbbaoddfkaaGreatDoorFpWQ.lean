/- The patch writer's writeHunk. No statement is proved here. -/
import Derived.Test.YtnkbjbbaoddfkaaGreatDoorRows
import Derived.Test.YtnkbjbbaoddfkaaGreatDoorLemQ
import Derived.Test.YtnkbjbbaoddfkaaGreatDoorDTabQ
import Derived.Test.YtnkbjbbaoddfkaaGreatDoorHkLQ
import Derived.Test.YtnkbjbbaoddfkaaGreatDoorHkCQ
import Derived.Test.YtnkbjbbaoddfkaaGreatDoorHkTQ
import Derived.Test.YtnkbjbbaoddfkaaGreatDoorFiCQ
import Derived.Test.YtnkbjbbaoddfkaaGreatDoorFpSQ
import Derived.Test.YtnkbjbbaoddfkaaGreatDoorBldFQ
import Derived.Test.YtnkbjbbaoddfkaaGreatDoorPwQ
import Derived.WalkKit
import Derived.ProofKit
import Derived.Below
import Derived.WalkSpells
import Derived.RangeFuncRecord
import Derived.Test.YtnkbjbbaoddfkaaGreatDoorHfCQ
import Derived.Test.YtnkbjbbaoddfkaaGreatDoorHfIQ
set_option linter.unusedVariables false
namespace Go.Proofs.YtnkbjbbaoddfkaaGreatDoor.Fp
open Go.ChangeShapes Go.WideShapes Go.ChangeAt Go.RowKit
open Go.Proofs.YtnkbjbbaoddfkaaGreatDoor.Pw (PW)

/-- A block that is no row of bytes is kept. -/
theorem keepB {b k : Nat} {w w' : World} {cs : Array Value} {T : TypeId} {fz : Nat × Nat} (K : Ky (b + 1) b w w') (h : w.heap[k]? = some (.cells cs T fz)) (hT : ¬ T = 5) (hk : ¬ k = b) : w'.heap[k]? = some (.cells cs T fz) := by
  have hlt : k < w.heap.size := by
    rcases Nat.lt_or_ge k w.heap.size with h' | h'
    · exact h'
    · simp [Array.getElem?_eq_none h'] at h
  rw [K.nb k hlt hk (fun cs' fz' e => by rw [h] at e; cases e; exact hT rfl)]
  exact h
theorem cellB {w : World} {k o : Nat} {cs : Array Value} {T : TypeId} {fz : Nat × Nat} {v : Value} (h : w.heap[k]? = some (.cells cs T fz)) (hv : cs[o]? = some v) : w.cell? ⟨k, o, none⟩ = some v := by
  unfold World.cell?
  simp only [h]
  exact hv
theorem ssbK {B b : Nat} {w w' : World} {a : Option Addr} {ss : List ByteArray} (h : SSB B w a ss) (K : Ky (b + 1) b w w') (hB : B ≤ b) : SSB B w' a ss := ⟨h.1, fun j hj => by
  obtain ⟨g, o, e', hb', hc⟩ := h.2 j hj
  exact ⟨g, o, e', hb', ((K.kb.below (by omega)).cell (p := ⟨g, o + j, none⟩) (show g < b by omega)).trans hc⟩⟩
theorem taK {b : Nat} {w w' : World} (h : TaG w) (K : Ky (b + 1) b w w') (hg : 1 < b) : TaG w' := h.below (K.kb.below (by omega)) hg
theorem kyB {b : Nat} {w w' : World} (h : Below w.heap.size w w') (hb : b < w.heap.size) : Ky (b + 1) b w w' := Ky.of h hb
set_option maxRecDepth 20000 in
set_option maxHeartbeats 8000000 in
theorem writeHunk (b B : Nat) (P : List UInt8) (x0 x1 : Int) (a : Option Addr) (c : Nat) (ss : List ByteArray) (w : World) (h : PW b P w) (hS : SSB B w a ss) (hB : B ≤ b) (hk : Hok (x0, x1, ss)) (ht : tot ss ≤ 1048576) (hTa : TaG w) (hg : 1 < b) :
    Calls Tryz.prog 20 #[.pointer (some ⟨b, 0, none⟩), .agg #[.int .i64 x0, .int .i64 x1, .slice a ss.length c]] w fun e w' => e = .returned (.tuple #[]) ∧ PW b (P ++ hkT (x0, x1, ss)) w' ∧ Ky (b + 1) b w w' := by
  have hn := hk.n
  have hok := hk.ok
  have hx0 := hk.a0
  have hx1 := hk.a1
  simp only [] at hn hok hx0 hx1
  have hob := oldN_bd ss
  have hnb := newN_bd ss
  have hlt := h.lt
  obtain ⟨W1, hW1⟩ : ∃ W, w.alloc (.cells #[.int .i64 x0, .int .i64 x1, .slice a ss.length c] 35) = W := ⟨_, rfl⟩
  have b1 : Below w.heap.size w W1 := by rw [← hW1]; exact allocBelow _ _
  have Hh : W1.heap[w.heap.size]? = some (.cells #[.int .i64 x0, .int .i64 x1, .slice a ss.length c] 35 (0, 0)) := by rw [← hW1]; exact World.alloc_heap_new w _
  have K1 := kyB b1 hlt
  have z1 := b1.size
  have P1 := h.below b1
  have S1 := ssbK hS K1 hB
  obtain ⟨p, hp⟩ : ∃ p, w.heap.size = p := ⟨_, rfl⟩
  have pb : ¬ p = b := by omega
  rw [hp] at Hh
  have c0 := cellB (o := 0) Hh rfl
  have c1 := cellB (o := 1) Hh rfl
  have c2 := cellB (o := 2) Hh rfl
  have hZ := fun W h => implSizesOf x0 x1 a c ss W h (by omega)
  rw [szC_ok hok, szV_ok hok] at hZ
  obtain ⟨n0, hn0⟩ : ∃ n, oldN ss = n := ⟨_, rfl⟩
  obtain ⟨n1, hn1⟩ : ∃ n, newN ss = n := ⟨_, rfl⟩
  have HH : Hid (headT (x0, x1, ss) = headB x0.toNat n0.toNat x1.toNat n1.toNat) := by show _ = _; unfold headT; rw [← hn0, ← hn1]
  rw [hn0] at hZ hob
  rw [hn1] at hZ hnb
  clear hn0 hn1
  go_enter Tryz.func20, Tryz.ntmps20
  go_wp2_with fail
  refine (hZ _ (S1.toSS (by have := b1.size; omega))).mono ?_; rintro e w2 ⟨v, rfl, o2, b2⟩
  have lt1 : b < W1.heap.size := P1.lt
  have k2 := kyB b2 lt1
  have K := K1.trans k2
  have PP := P1.below b2
  replace Hh := keepB k2 Hh (by decide) pb
  obtain ⟨g, cc, cur, rfl, hgb, Hg, hcur⟩ : ∃ g cc cur, v = .slice (some ⟨g, 0, none⟩) 2 cc ∧ W1.heap.size ≤ g ∧ w2.heap[g]? = some (.cells cur 2 (0, 0)) ∧ cur.toList.take 2 = [.int .i64 n0, .int .i64 n1] := by
    rcases o2.2 with ⟨_, h0⟩ | ⟨g, cap, cur, hv, hg1, hg2, _, _, _, htk⟩
    · simp at h0
    · exact ⟨g, cap, cur, hv, hg1, hg2, htk⟩
  have gb : ¬ g = b := by omega
  have hc0 : cur[0]? = some (.int .i64 n0) := by
    have := congrArg (fun l => l[0]?) hcur
    simpa [List.getElem?_take] using this
  have hc1 : cur[1]? = some (.int .i64 n1) := by
    have := congrArg (fun l => l[1]?) hcur
    simpa [List.getElem?_take] using this
  clear o2 hcur hZ b2 k2 K1 P1 S1 c0 c1 c2
  obtain ⟨W3, hW3⟩ : ∃ W, w2.alloc (.cells #[.int .i64 0, .slice (some ⟨g, 0, none⟩) 2 cc] 39) = W := ⟨_, rfl⟩
  have b3 : Below w2.heap.size w2 W3 := by rw [← hW3]; exact allocBelow _ _
  have Hq : W3.heap[w2.heap.size]? = some (.cells #[.int .i64 0, .slice (some ⟨g, 0, none⟩) 2 cc] 39 (0, 0)) := by rw [← hW3]; exact World.alloc_heap_new w2 _
  have lt2 : b < w2.heap.size := PP.lt
  have k3 := kyB b3 lt2
  replace K := K.trans k3
  replace PP := PP.below b3
  replace Hh := keepB k3 Hh (by decide) pb
  replace Hg := keepB k3 Hg (by decide) gb
  obtain ⟨q, hq⟩ : ∃ q, w2.heap.size = q := ⟨_, rfl⟩
  have qb : ¬ q = b := by omega
  rw [hq] at Hq
  clear b3 k3 lt1 lt2
  go_wp2_with fail
  refine (Pw.write b _ ⟨#[64, 64, 32, 45]⟩ _ PP (by decide) (by decide)).mono ?_; rintro e w5 ⟨rfl, PN, kn⟩
  replace K := K.trans kn
  replace Hh := keepB kn Hh (by decide) pb
  replace Hq := keepB kn Hq (by decide) qb
  replace Hg := keepB kn Hg (by decide) gb
  clear PP
  have PP := PN
  clear PN kn hW1 hW3 hp hq
  have d0 := cellB (o := 0) Hh rfl
  have TA := taK hTa K hg
  go_wp2_with fail
  refine (formatInt x0 (by omega) (by omega) _ TA).mono ?_; rintro e w6 ⟨rfl, bn⟩
  have kn := kyB bn PP.lt
  replace K := K.trans kn
  replace PP := PP.below bn
  replace Hh := keepB kn Hh (by decide) pb
  replace Hq := keepB kn Hq (by decide) qb
  replace Hg := keepB kn Hg (by decide) gb
  have zx0 := it_size (n := x0) (by omega) (by omega)
  have px0 : (itB x0).data.toList ≠ [] := by rw [← dec_it x0 (by omega)]; exact dec_pos _
  clear bn kn TA d0
  go_wp2_with fail
  refine (Pw.write b _ (itB x0) _ PP (by omega) px0).mono ?_; rintro e w7 ⟨rfl, PN, kn⟩
  replace K := K.trans kn
  replace Hh := keepB kn Hh (by decide) pb
  replace Hq := keepB kn Hq (by decide) qb
  replace Hg := keepB kn Hg (by decide) gb
  clear PP
  have PP := PN
  clear PN kn
  go_wp2_with fail
  refine (Pw.write b _ ⟨#[44]⟩ _ PP (by decide) (by decide)).mono ?_; rintro e w8 ⟨rfl, PN, kn⟩
  replace K := K.trans kn
  replace Hh := keepB kn Hh (by decide) pb
  replace Hq := keepB kn Hq (by decide) qb
  replace Hg := keepB kn Hg (by decide) gb
  clear PP
  have PP := PN
  clear PN kn
  have d1 := cellB (o := 1) Hq rfl
  have d2 := cellB (o := 0) Hg hc0
  have TA := taK hTa K hg
  go_wp2_with fail
  refine (formatInt n0 (by omega) (by omega) _ TA).mono ?_; rintro e w9 ⟨rfl, bn⟩
  have kn := kyB bn PP.lt
  replace K := K.trans kn
  replace PP := PP.below bn
  replace Hh := keepB kn Hh (by decide) pb
  replace Hq := keepB kn Hq (by decide) qb
  replace Hg := keepB kn Hg (by decide) gb
  have zn0 := it_size (n := n0) (by omega) (by omega)
  have pn0 : (itB n0).data.toList ≠ [] := by rw [← dec_it n0 (by omega)]; exact dec_pos _
  clear bn kn TA d1 d2
  go_wp2_with fail
  refine (Pw.write b _ (itB n0) _ PP (by omega) pn0).mono ?_; rintro e w10 ⟨rfl, PN, kn⟩
  replace K := K.trans kn
  replace Hh := keepB kn Hh (by decide) pb
  replace Hq := keepB kn Hq (by decide) qb
  replace Hg := keepB kn Hg (by decide) gb
  clear PP
  have PP := PN
  clear PN kn
  go_wp2_with fail
  refine (Pw.write b _ ⟨#[32, 43]⟩ _ PP (by decide) (by decide)).mono ?_; rintro e w11 ⟨rfl, PN, kn⟩
  replace K := K.trans kn
  replace Hh := keepB kn Hh (by decide) pb
  replace Hq := keepB kn Hq (by decide) qb
  replace Hg := keepB kn Hg (by decide) gb
  clear PP
  have PP := PN
  clear PN kn
  have d0 := cellB (o := 1) Hh rfl
  have TA := taK hTa K hg
  go_wp2_with fail
  refine (formatInt x1 (by omega) (by omega) _ TA).mono ?_; rintro e w12 ⟨rfl, bn⟩
  have kn := kyB bn PP.lt
  replace K := K.trans kn
  replace PP := PP.below bn
  replace Hh := keepB kn Hh (by decide) pb
  replace Hq := keepB kn Hq (by decide) qb
  replace Hg := keepB kn Hg (by decide) gb
  have zx1 := it_size (n := x1) (by omega) (by omega)
  have px1 : (itB x1).data.toList ≠ [] := by rw [← dec_it x1 (by omega)]; exact dec_pos _
  clear bn kn TA d0
  go_wp2_with fail
  refine (Pw.write b _ (itB x1) _ PP (by omega) px1).mono ?_; rintro e w13 ⟨rfl, PN, kn⟩
  replace K := K.trans kn
  replace Hh := keepB kn Hh (by decide) pb
  replace Hq := keepB kn Hq (by decide) qb
  replace Hg := keepB kn Hg (by decide) gb
  clear PP
  have PP := PN
  clear PN kn
  go_wp2_with fail
  refine (Pw.write b _ ⟨#[44]⟩ _ PP (by decide) (by decide)).mono ?_; rintro e w14 ⟨rfl, PN, kn⟩
  replace K := K.trans kn
  replace Hh := keepB kn Hh (by decide) pb
  replace Hq := keepB kn Hq (by decide) qb
  replace Hg := keepB kn Hg (by decide) gb
  clear PP
  have PP := PN
  clear PN kn
  have d1 := cellB (o := 1) Hq rfl
  have d2 := cellB (o := 1) Hg hc1
  have TA := taK hTa K hg
  go_wp2_with fail
  refine (formatInt n1 (by omega) (by omega) _ TA).mono ?_; rintro e w15 ⟨rfl, bn⟩
  have kn := kyB bn PP.lt
  replace K := K.trans kn
  replace PP := PP.below bn
  replace Hh := keepB kn Hh (by decide) pb
  replace Hq := keepB kn Hq (by decide) qb
  replace Hg := keepB kn Hg (by decide) gb
  have zn1 := it_size (n := n1) (by omega) (by omega)
  have pn1 : (itB n1).data.toList ≠ [] := by rw [← dec_it n1 (by omega)]; exact dec_pos _
  clear bn kn TA d1 d2
  go_wp2_with fail
  refine (Pw.write b _ (itB n1) _ PP (by omega) pn1).mono ?_; rintro e w16 ⟨rfl, PN, kn⟩
  replace K := K.trans kn
  replace Hh := keepB kn Hh (by decide) pb
  replace Hq := keepB kn Hq (by decide) qb
  replace Hg := keepB kn Hg (by decide) gb
  clear PP
  have PP := PN
  clear PN kn
  go_wp2_with fail
  refine (Pw.write b _ ⟨#[32, 64, 64, 10]⟩ _ PP (by decide) (by decide)).mono ?_; rintro e w17 ⟨rfl, PN, kn⟩
  replace K := K.trans kn
  replace Hh := keepB kn Hh (by decide) pb
  replace Hq := keepB kn Hq (by decide) qb
  replace Hg := keepB kn Hg (by decide) gb
  clear PP
  have PP := PN
  clear PN kn
  have d3 := cellB (o := 2) Hh rfl
  obtain ⟨V, hV⟩ : ∃ V, V = w17 := ⟨_, rfl⟩
  subst hV
  have SV := ssbK hS K hB
  have HP : Hid (P ++ (headT (x0, x1, ss)).data.toList ++ linesT (ss.take 0) = (((((((((P ++ (⟨#[64, 64, 32, 45]⟩ : ByteArray).data.toList) ++ (itB x0).data.toList) ++ (⟨#[44]⟩ : ByteArray).data.toList) ++ (itB n0).data.toList) ++ (⟨#[32, 43]⟩ : ByteArray).data.toList) ++ (itB x1).data.toList) ++ (⟨#[44]⟩ : ByteArray).data.toList) ++ (itB n1).data.toList) ++ (⟨#[32, 64, 64, 10]⟩ : ByteArray).data.toList)) := by
    show _ = _
    rw [HH.out, head_parts, dec_it x0 (by omega), dec_it x1 (by omega), dec_it n0 (by omega), dec_it n1 (by omega)]
    simp [linesT]
  rw [← HP.out] at PP
  obtain ⟨Q, hQ⟩ : ∃ Q, P ++ (headT (x0, x1, ss)).data.toList = Q := ⟨_, rfl⟩
  have HQ : Hid (P ++ hkT (x0, x1, ss) = Q ++ linesT ss) := by show _ = _; rw [← hQ]; unfold hkT; rw [List.append_assoc]
  rw [hQ] at PP
  have HS : ∀ k, k < ss.length → Hid (0 < (ss.getD k ByteArray.empty).size ∧ (ss.getD k ByteArray.empty).size ≤ 1048576) := fun k hk' => by
    have hm : ss.getD k ByteArray.empty ∈ ss := by rw [getD_at ss k hk']; exact List.getElem_mem hk'
    have h1 := okH_size (List.all_eq_true.1 hok _ hm)
    have h2 := tot_take ss k hk'
    have h3 := tot_take_le ss (k + 1)
    have h4 := tot_nonneg (ss.take k)
    exact ⟨h1, by omega⟩
  have hne1 : (⟨#[10]⟩ : ByteArray).data.toList ≠ [] := by decide
  have hne2 : (⟨#[92, 10]⟩ : ByteArray).data.toList ≠ [] := by decide
  clear hQ HP HH Hh Hq Hg hc0 hc1 px0 px1 pn0 pn1 zx0 zx1 zn0 zn1 hgb hob hnb hx0 hx1 hk hok ht hTa hS
  go_wp2
  go_loopw [6, 46] (fun _m i wr => ∃ k : Nat, k ≤ ss.length ∧ i = .int .i64 k ∧ PW b (Q ++ linesT (ss.take k)) wr ∧ Ky (b + 1) b V wr) (fun _ i _ => ss.length - (intOf i).toNat)
  case atStart => exact ⟨0, Nat.zero_le _, rfl, PP, Ky.refl _ _ _⟩
  case round =>
    obtain ⟨k, hk, rfl, PK, KK⟩ := hrel
    clear PP
    by_cases hlt' : k < ss.length
    · have qk : (k : Int) < (ss.length : Int) := by omega
      obtain ⟨g1, off, e, hg1, hc⟩ := (ssbK SV KK hB).2 k hlt'
      subst e
      have hs := HS k hlt'
      have eT := lines_take ss k hlt'
      obtain ⟨t, hte⟩ : ∃ t, ss.getD k ByteArray.empty = t := ⟨_, rfl⟩
      rw [hte] at hc hs eT
      have hs1 := hs.out.1
      have hs2 := hs.out.2
      clear hs hte HS
      go_wp2_with fail
      refine (Pw.write b _ t _ PK hs2 (dataPos hs1)).mono ?_; rintro e wa ⟨rfl, PA, ka⟩
      have KA := KK.trans ka
      clear PK ka KK hc
      go_wp2_with fail
      refine (hasSuffix t _ hs1 (by omega)).mono ?_; rintro e wa ⟨rfl, rfl⟩
      cases he : ends t.data.toList with
      | true =>
        have HN : Hid (Q ++ linesT (ss.take (k + 1)) = Q ++ linesT (ss.take k) ++ t.data.toList) := by show _ = _; rw [eT, ln_yes he, List.append_assoc]
        clear eT
        go_wp2
        go_roundw
        case rel => exact ⟨k + 1, by omega, by go_num, by rw [HN.out]; exact PA, KA⟩
        case measure => first | (simp [intOf]; omega) | simp [intOf]
      | false =>
        have HN : Hid (Q ++ linesT (ss.take (k + 1)) = ((Q ++ linesT (ss.take k) ++ t.data.toList) ++ (⟨#[10]⟩ : ByteArray).data.toList) ++ (⟨#[92, 10]⟩ : ByteArray).data.toList) := by
          show _ = _
          rw [eT, ln_no he]
          simp
        clear eT
        go_wp2_with fail
        refine (Pw.write b _ ⟨#[10]⟩ _ PA (by decide) hne1).mono ?_; rintro e wb ⟨rfl, PB, kb⟩
        have KB := KA.trans kb
        clear PA kb KA
        go_wp2_with fail
        refine (Pw.write b _ ⟨#[92, 10]⟩ _ PB (by decide) hne2).mono ?_; rintro e wc ⟨rfl, PC, kc⟩
        have KC := KB.trans kc
        clear PB kc KB
        go_wp2
        go_roundw
        case rel => exact ⟨k + 1, by omega, by go_num, by rw [HN.out]; exact PC, KC⟩
        case measure => first | (simp [intOf]; omega) | simp [intOf]
    · have qk : ¬ (k : Int) < (ss.length : Int) := by omega
      have HF : Hid (PW b (Q ++ linesT ss) wr) := by
        have := PK
        rw [List.take_of_length_le (by omega)] at this
        exact this
      have KF := K.trans KK
      clear PK KK HS
      go_wp2
      go_end0
      exact ⟨rfl, by rw [HQ.out]; exact HF.out, KF⟩
end Go.Proofs.YtnkbjbbaoddfkaaGreatDoor.Fp
/- FormatPatch of the program. No statement is proved here. -/
set_option linter.unusedVariables false
namespace Go.Proofs.YtnkbjbbaoddfkaaGreatDoor.Fp
open Go.ChangeShapes Go.WideShapes Go.ChangeAt Go.RowKit
open Go.Proofs.YtnkbjbbaoddfkaaGreatDoor.Pw (PW)

/-- All lines of all hunks are short enough. -/
def TotH (l : List Hk) : Prop := ∀ h ∈ l, tot h.2.2 ≤ 1048576
theorem ret_tx {a b : Int} {s t : ByteArray} (h : a = b) (k : s = t) : Ending.returned (.agg #[.int .i64 a, .string s]) = .returned (.agg #[.int .i64 b, .string t]) := by rw [h, k]
theorem below2 {b : Nat} {w w' : World} (h : Below b w w') (x0 x1 : Value) : Below b w ((w'.setCell ⟨b, 0, none⟩ x0).setCell ⟨b, 1, none⟩ x1) := (h.setCell (p := ⟨b, 0, none⟩) (Nat.le_refl _) _).setCell (p := ⟨b, 1, none⟩) (Nat.le_refl _) _
theorem hbK {B b : Nat} {w w' : World} {a : Option Addr} {l : List Hk} (h : HB B w a l) (K : Ky (b + 1) b w w') (hB : B ≤ b) : HB B w' a l := fun k hk => by
  obtain ⟨g, off, ak, ck, e, hg, h0, h1, h2, h3⟩ := h k hk
  have kc : ∀ o v, w.cell? ⟨g, o, none⟩ = some v → w'.cell? ⟨g, o, none⟩ = some v := fun o v hv => ((K.kb.below (by omega)).cell (p := ⟨g, o, none⟩) (show g < b by omega)).trans hv
  exact ⟨g, off, ak, ck, e, hg, kc _ _ h0, kc _ _ h1, kc _ _ h2, ssbK h3 K hB⟩
theorem rfK {b p : Nat} {w w' : World} {vs : List Value} (h : Rf w p vs) (K : Ky (b + 1) b w w') (hp : p < b) : Rf w' p vs :=
  ⟨fun k v hk => ((K.kb.below (by omega)).cell (p := ⟨p, k, none⟩) hp).trans (h.at_ k v hk), fun k => ((K.kb.below (by omega)).frozen (p := ⟨p, k, none⟩) hp).trans (h.fz k)⟩
set_option maxRecDepth 20000 in
set_option maxHeartbeats 8000000 in
theorem implFormatPatch (a : Option Addr) (c : Nat) (l : List Hk) (w : World) (h : HB w.heap.size w a l) (hn : l.length ≤ 1048576) (hs : Shortly l) (ht : TotH l) (hTa : TaG w) (hg : 1 < w.heap.size) :
    Calls Tryz.prog 7 #[.slice a l.length c] w fun e w' => e = .returned (.agg #[.int .i64 (fpC l), .string (fpT l)]) ∧ Below w.heap.size w w' := by
  have hF := fun W h => implHunksFault a c l W h hn hs
  obtain ⟨p, hp⟩ : ∃ p, w.heap.size = p := ⟨_, rfl⟩
  rw [hp] at h hg
  obtain ⟨W1, hW1⟩ : ∃ W, w.alloc (.cells #[.int .i64 0, .string ⟨#[]⟩] 30) = W := ⟨_, rfl⟩
  have b1 : Below p w W1 := by rw [← hW1, ← hp]; exact allocBelow _ _
  have r1 : Rf W1 p [.int .i64 0, .string ⟨#[]⟩] := by rw [← hW1, ← hp]; exact Rf.new _ _ _
  have z1 : p < W1.heap.size := by rw [← hW1, ← hp]; simp
  have H1 : HB p W1 a l := h.below (by rw [hp]; exact b1)
  have fault := fun e => (fp_fault (l := l) e)
  have many := fun e k => (fp_many (l := l) e k)
  have good := fun e k => (fp_ok (l := l) e k)
  have all := fun e => hf_all (l := l) e
  obtain ⟨C, hC⟩ : ∃ C, fpC l = C := ⟨_, rfl⟩
  obtain ⟨T, hT⟩ : ∃ T, fpT l = T := ⟨_, rfl⟩
  obtain ⟨F, hFe⟩ : ∃ F, hf l = F := ⟨_, rfl⟩
  simp only [hC, hT, hFe] at fault many good all hF ⊢
  clear hC hT hFe
  have hF1 := hF W1 (H1.mono (by omega))
  go_enter Tryz.func7, Tryz.ntmps7
  go_wp2_with fail
  refine hF1.mono ?_; rintro e w2 ⟨rfl, b2⟩
  have B2 : Below p w w2 := b1.trans (b2.mono (by omega))
  have R2 := r1.below z1 b2
  have z2 : p < w2.heap.size := Nat.lt_of_lt_of_le z1 b2.size
  clear hF hF1 r1 z1 b1
  by_cases e0 : F = 0
  rotate_left
  · have HR : Hid (C = F ∧ T = ⟨#[]⟩) := fault e0
    have q : (F != 0) = true := by simp [e0]
    have d0 := R2.at_ 0 _ rfl
    have d1 := R2.at_ 1 _ rfl
    have f0 := R2.fz 0
    have f1 := R2.fz 1
    clear fault many good all e0
    go_wp2
    refine bodyPost_ret (v := .agg #[.int .i64 F, .string ⟨#[]⟩]) (by simp [results, Tryz.results7, go_sem, d0, d1]) rfl ?_
    rw [hp]
    exact ⟨ret_tx HR.out.1.symm HR.out.2.symm, below2 B2 _ _⟩
  subst e0
  obtain ⟨hl, hall⟩ := all rfl
  have HMany : Hid (8000 < (fpL l).length → C = 2 ∧ T = ⟨#[]⟩) := fun k => many rfl k
  have HGood : Hid (¬ 8000 < (fpL l).length → C = 0 ∧ T = ⟨(fpL l).toArray⟩) := fun k => good rfl k
  clear many good
  obtain ⟨W3, hW3⟩ : ∃ W, w2.alloc (.cells #[.pointer none, .slice none 0 0, .bool false] 54) = W := ⟨_, rfl⟩
  have b3 : Below w2.heap.size w2 W3 := by rw [← hW3]; exact allocBelow _ _
  have P3 : PW w2.heap.size [] W3 := by rw [← hW3]; exact PW.new w2
  have H3 : HB p W3 a l := (H1.below b2).below b3
  have R3 := R2.below z2 b3
  have B3 : Below p w W3 := B2.trans (b3.mono (by omega))
  have T3 : TaG W3 := hTa.below B3 hg
  obtain ⟨b, hb⟩ : ∃ b, w2.heap.size = b := ⟨_, rfl⟩
  rw [hb] at P3
  have pb : p < b := by omega
  have fz := fault
  clear fault all b2 B2 R2 H1 h hTa fz b3
  go_wp2
  go_loopw [6, 15] (fun _m i wr => ∃ k : Nat, k ≤ l.length ∧ i = .int .i64 k ∧ PW b (fpL (l.take k)) wr ∧ Ky (b + 1) b W3 wr) (fun _ i _ => l.length - (intOf i).toNat)
  case atStart => exact ⟨0, Nat.zero_le _, rfl, P3, Ky.refl _ _ _⟩
  case round =>
    obtain ⟨k, hk, rfl, PK, KK⟩ := hrel
    clear P3
    have Hr := hbK H3 KK (by omega)
    by_cases hlt : k < l.length
    · have qk : (k : Int) < (l.length : Int) := by omega
      obtain ⟨g, off, ak, ck, e, hg', d0, d1, d2, S⟩ := Hr k hlt
      subst e
      have hm : l.getD k hnil ∈ l := by rw [List.getD, List.getElem?_eq_getElem hlt]; exact List.getElem_mem hlt
      have hko := hall _ hm
      have htt := ht _ hm
      have eT := fp_take l k hlt
      have hC : l.getD k (0, 0, []) = l.getD k hnil := rfl
      rw [hC] at d0 d1 d2 S
      obtain ⟨x, hx⟩ : ∃ x, l.getD k hnil = x := ⟨_, rfl⟩
      obtain ⟨x0, x1, ss⟩ := x
      rw [hx] at d0 d1 d2 S hko htt eT
      simp only [] at d0 d1 d2 S hko htt eT
      have TA := taK T3 KK (by omega)
      obtain ⟨W5, hW5⟩ : ∃ W, wr.alloc (.cells #[.int .i64 x0, .int .i64 x1, .slice ak ss.length ck] 35) = W := ⟨_, rfl⟩
      have b5 : Below wr.heap.size wr W5 := by rw [← hW5]; exact allocBelow _ _
      have R5 : Rs W5 wr.heap.size [.int .i64 x0, .int .i64 x1, .slice ak ss.length ck] := by rw [← hW5]; exact Rs.new _ _ _
      have k5 := kyB b5 PK.lt
      have P5 := PK.below b5
      have S5 := ssbK S k5 (by omega : p ≤ b)
      have T5 := taK TA k5 (by omega)
      have e0 := R5 0 _ rfl
      have e1 := R5 1 _ rfl
      have e2 := R5 2 _ rfl
      have KN := KK.trans k5
      clear hx hm hC Hr TA S PK KK k5 b5 R5
      go_wp2_with fail
      refine (writeHunk b p _ x0 x1 ak ck ss _ P5 S5 (by omega) hko htt T5 (by omega)).mono ?_; rintro e w6 ⟨rfl, P6, k6⟩
      have K6 := KN.trans k6
      have HN : Hid (PW b (fpL (l.take (k + 1))) w6) := by rw [eT]; exact P6
      clear P5 S5 T5 P6 k6 KN e0 e1 e2 eT d0 d1 d2 hW5
      go_wp2
      go_roundw
      case rel => exact ⟨k + 1, by omega, by go_num, HN.out, K6⟩
      case measure => first | (simp [intOf]; omega) | simp [intOf]
    · have qk : ¬ (k : Int) < (l.length : Int) := by omega
      have PF : PW b (fpL l) wr := by
        have := PK
        rw [List.take_of_length_le (by omega)] at this
        exact this
      have RF := rfK R3 KK pb
      have BF : Below p w wr := B3.trans ((KK.kb.below (by omega)).mono (by omega))
      obtain ⟨pp, v, bs, hP, hA, hbs, hPe, hPn⟩ := PF.ex
      have c2 := hA.c2
      clear PK KK Hr H3 T3 R3 B3
      by_cases hbig : 8000 < (fpL l).length
      · have HR : Hid (C = 2 ∧ T = ⟨#[]⟩) := HMany.out hbig
        have q2 : decide (8000 < (fpL l).length) = true := decide_eq_true hbig
        rw [q2] at c2
        have d0 := RF.at_ 0 _ rfl
        have d1 := RF.at_ 1 _ rfl
        have f0 := RF.fz 0
        have f1 := RF.fz 1
        clear HMany HGood q2 hA hPe hPn PF
        go_wp2
        refine bodyPost_ret (v := .agg #[.int .i64 2, .string ⟨#[]⟩]) (by simp [results, Tryz.results7, go_sem, d0, d1]) rfl ?_
        try rw [hp]
        exact ⟨ret_tx HR.out.1.symm HR.out.2.symm, below2 BF _ _⟩
      · have HR : Hid (C = 0 ∧ T = ⟨(fpL l).toArray⟩) := HGood.out hbig
        have q2 : decide (8000 < (fpL l).length) = false := decide_eq_false hbig
        have hbe := hPe (by omega)
        rw [hbe, q2] at hA
        rw [q2] at c2
        have hSt : Calls Tryz.prog 21 #[.pointer (some ⟨b, 0, none⟩)] wr fun e w' => e = .returned (.string ⟨(fpL l).toArray⟩) ∧ Below (b + 1) wr w' := by
          by_cases h0 : fpL l = []
          · have hv := hPn h0
            rw [hv, h0] at hA
            rw [h0]
            exact Pw.stringNil b pp false wr hA
          · exact Pw.string3 b pp v false (fpL l) wr hA h0
        obtain ⟨X, hX⟩ : ∃ X : ByteArray, (⟨(fpL l).toArray⟩ : ByteArray) = X := ⟨_, rfl⟩
        rw [hX] at hSt HR
        clear HMany HGood q2 hA hPe hPn PF hbe hX
        go_wp2_with fail
        refine hSt.mono ?_; rintro e w7 ⟨rfl, b7⟩
        have R7 : Rf w7 p [.int .i64 0, .string ⟨#[]⟩] := ⟨fun j u hj => (b7.cell (p := ⟨p, j, none⟩) (show p < b + 1 by omega)).trans (RF.at_ j u hj), fun j => (b7.frozen (p := ⟨p, j, none⟩) (show p < b + 1 by omega)).trans (RF.fz j)⟩
        have B7 : Below p w w7 := BF.trans (b7.mono (by omega))
        have d0 := R7.at_ 0 _ rfl
        have d1 := R7.at_ 1 _ rfl
        have f0 := R7.fz 0
        have f1 := R7.fz 1
        clear hSt b7 RF BF R7 c2
        go_wp2
        refine bodyPost_ret (v := .agg #[.int .i64 0, .string X]) (by simp [results, Tryz.results7, go_sem, d0, d1]) rfl ?_
        try rw [hp]
        exact ⟨ret_tx HR.out.1.symm HR.out.2.symm, below2 B7 _ _⟩
end Go.Proofs.YtnkbjbbaoddfkaaGreatDoor.Fp
