/- FormatPatch of the specification. No statement is proved here. -/
import Derived.Test.YtnkbjbbaoddfkaaGreatDoorRows
import Derived.Test.YtnkbjbbaoddfkaaGreatDoorLemQ
import Derived.Test.YtnkbjbbaoddfkaaGreatDoorDTabQ
import Derived.Test.YtnkbjbbaoddfkaaGreatDoorHkLQ
import Derived.Test.YtnkbjbbaoddfkaaGreatDoorHkCQ
import Derived.Test.YtnkbjbbaoddfkaaGreatDoorHkTQ
import Derived.Test.YtnkbjbbaoddfkaaGreatDoorHfCQ
import Derived.Test.YtnkbjbbaoddfkaaGreatDoorHfIQ
import Derived.Test.YtnkbjbbaoddfkaaGreatDoorFpSQ
import Derived.Test.YtnkbjbbaoddfkaaGreatDoorFpWQ
import Derived.WalkKit
import Derived.ProofKit
import Derived.Below
import Derived.WalkSpells
import Derived.Laws.Concat
set_option linter.unusedVariables false
namespace Go.Proofs.YtnkbjbbaoddfkaaGreatDoor.Fp
open Go.ChangeShapes Go.WideShapes Go.ChangeAt Go.RowKit

theorem zcF {w w' : World} {b o : Nat} {v : Value} (h : Below w.heap.size w w') (hc : w.cell? ⟨b, o, none⟩ = some v) : w'.cell? ⟨b, o, none⟩ = some v := (Fr.ofBelow (lo := 0) (hi := 0) h).cell hc (.inr (Nat.zero_le _))
theorem appB (X : List UInt8) (s : ByteArray) : (⟨X.toArray⟩ : ByteArray) ++ s = ⟨(X ++ s.data.toList).toArray⟩ := by
  apply WideShapes.bytes_inj
  simp [ByteArray.data_append]
theorem sizeA (X : List UInt8) : (⟨X.toArray⟩ : ByteArray).size = X.length := by simp [ByteArray.size]
theorem linesT_len (ss : List ByteArray) (k : Nat) : ((linesT (ss.take k)).length : Int) ≤ tot ss + 3 * ss.length := by
  have key : ∀ ss : List ByteArray, ((linesT ss).length : Int) ≤ tot ss + 3 * ss.length := by
    intro ss
    induction ss with
    | nil => simp [linesT, tot]
    | cons s t ih =>
      have h1 := lnT_len s
      have e1 : linesT (s :: t) = lnT s ++ linesT t := by simp [linesT]
      have e2 : tot (s :: t) = (s.size : Int) + tot t := by simp [tot]
      rw [e1, e2, List.length_append, List.length_cons]
      push_cast
      omega
  have h := key (ss.take k)
  have h1 := tot_take_le ss k
  have h2 : (ss.take k).length ≤ ss.length := by rw [List.length_take]; omega
  omega
theorem hk_len {h : Hk} (hk : Hok h) (ht : tot h.2.2 ≤ 1048576) : (hkT h).length ≤ 1100000 := by
  have hn := hk.n
  have h1 := oldN_bd h.2.2
  have h2 := newN_bd h.2.2
  have h3 := head_size h hk ⟨by omega, by omega⟩
  have h4 := linesT_len h.2.2 h.2.2.length
  rw [List.take_length] at h4
  have e : (headT h).data.toList.length = (headT h).size := by simp
  unfold hkT
  rw [List.length_append, e]
  omega
theorem fp_len {l : List Hk} (hall : ∀ x ∈ l, Hok x) (ht : TotH l) (k : Nat) (hk : k ≤ l.length) : (fpL (l.take k)).length ≤ k * 1100000 := by
  induction k with
  | zero => simp [fpL]
  | succ k ih =>
    have hlt : k < l.length := by omega
    have hm : l.getD k hnil ∈ l := by rw [List.getD, List.getElem?_eq_getElem hlt]; exact List.getElem_mem hlt
    have h1 := ih (by omega)
    have h2 := hk_len (hall _ hm) (ht _ hm)
    rw [fp_take l k hlt, List.length_append]
    omega
set_option maxRecDepth 20000 in
set_option maxHeartbeats 8000000 in
theorem l3Text (a : Option Addr) (c : Nat) (l : List Hk) (w : World) (h : HB w.heap.size w a l) (hl : l.length ≤ 100) (hall : ∀ x ∈ l, Hok x) (ht : TotH l) :
    Calls Tryz.prog 23 #[.slice a l.length c] w fun e w' => e = .returned (.string ⟨(fpL l).toArray⟩) ∧ Below w.heap.size w w' := by
  have hLen := fun k hk => fp_len hall ht k hk
  go_enter Tryz.func23, Tryz.ntmps23
  go_wp2
  go_loopw [3, 4] (fun t i wr => ∃ k : Nat, k ≤ l.length ∧ i = .int .i64 k ∧ t = .string ⟨(fpL (l.take k)).toArray⟩ ∧ Below w.heap.size w wr) (fun _ i _ => l.length - (intOf i).toNat)
  case atStart => exact ⟨0, Nat.zero_le _, rfl, rfl, Below.refl _ _⟩
  case round =>
    obtain ⟨k, hk, rfl, rfl, hbel⟩ := hrel
    have hsz := hbel.size
    obtain ⟨V, hV⟩ : ∃ V, V = wr := ⟨_, rfl⟩
    subst hV
    have Hr := h.below hbel
    by_cases hlt : k < l.length
    · have qk : (k : Int) < (l.length : Int) := by omega
      obtain ⟨g, off, ak, ck, e, hg', d0, d1, d2, S⟩ := Hr k hlt
      subst e
      have hm : l.getD k hnil ∈ l := by rw [List.getD, List.getElem?_eq_getElem hlt]; exact List.getElem_mem hlt
      have hko := hall _ hm
      have htt := ht _ hm
      have eT := fp_take l k hlt
      have hX := hLen k hk
      have hC : l.getD k (0, 0, []) = l.getD k hnil := rfl
      rw [hC] at d0 d1 d2 S
      obtain ⟨x, hx⟩ : ∃ x, l.getD k hnil = x := ⟨_, rfl⟩
      obtain ⟨x0, x1, ss⟩ := x
      rw [hx] at d0 d1 d2 S hko htt eT
      simp only [] at d0 d1 d2 S hko htt eT
      have hn := hko.n
      have hok := hko.ok
      have hx0 := hko.a0
      have hx1 := hko.a1
      simp only [] at hn hok hx0 hx1
      have hob := oldN_bd ss
      have hnb := newN_bd ss
      have hHs := head_size (x0, x1, ss) hko (show (oldN ss).toNat ≤ 200 ∧ (newN ss).toNat ≤ 200 by omega)
      have hZ := fun W h => l3Sizes x0 x1 ak ck ss W h (by omega) hok
      obtain ⟨y0, e0⟩ := Int.eq_ofNat_of_zero_le hx0.1
      obtain ⟨y1, e1⟩ := Int.eq_ofNat_of_zero_le hx1.1
      obtain ⟨m0, f0⟩ := Int.eq_ofNat_of_zero_le hob.1
      obtain ⟨m1, f1⟩ := Int.eq_ofNat_of_zero_le hnb.1
      have eh : headT (x0, x1, ss) = headB y0 m0 y1 m1 := by
        unfold headT
        simp only []
        rw [e0, e1, f0, f1]
        rfl
      have hH := fun v W => l3Head y0 y1 m0 m1 v W (by omega) (by omega) (by omega) (by omega)
      rw [← eh] at hH
      rw [f0, f1] at hZ
      subst e0
      subst e1
      obtain ⟨Hd, hHd⟩ : ∃ B, headT ((y0 : Int), (y1 : Int), ss) = B := ⟨_, rfl⟩
      rw [hHd] at hH hHs
      have HE : Hid (hkT ((y0 : Int), (y1 : Int), ss) = Hd.data.toList ++ linesT ss) := by show _ = _; unfold hkT; rw [hHd]
      obtain ⟨X, hXe⟩ : ∃ X, fpL (l.take k) = X := ⟨_, rfl⟩
      rw [hXe] at eT hX ⊢
      have HT : Hid (fpL (l.take (k + 1)) = X ++ Hd.data.toList ++ linesT ss) := by show _ = _; rw [eT, HE.out, List.append_assoc]
      have zX : X.length ≤ 110000000 := by omega
      have SS1 : SS V ak ss := S.toSS (by omega)
      have zA := sizeA X
      have zB : (⟨X.toArray⟩ : ByteArray).size + Hd.size ≤ 9223372036854775807 := by omega
      have hap := appB X Hd
      clear hko hx hm hC hHd HE eT eh hXe Hr hX hx0 hx1 hob hnb f0 f1
      go_wp2_with fail
      refine (hZ _ SS1).mono ?_; rintro e w2 ⟨rfl, b2⟩
      have D0 := zcF b2 d0
      have D1 := zcF b2 d1
      have D2 := zcF b2 d2
      clear hZ
      go_wp2_with fail
      refine (hH _ _).mono ?_; rintro e w3 ⟨rfl, b3⟩
      have B3 : Below w.heap.size w w3 := below_step (below_step hbel hsz b2) (by have := b2.size; omega) b3
      replace D0 := zcF b3 D0
      replace D1 := zcF b3 D1
      replace D2 := zcF b3 D2
      have SS3 : SS w3 ak ss := (SS1.below b2).below b3
      obtain ⟨Y, hY⟩ : ∃ Y, X ++ Hd.data.toList = Y := ⟨_, rfl⟩
      rw [hY] at hap HT
      have zY : Y.length ≤ 120000000 := by
        have e : Hd.data.toList.length = Hd.size := by simp
        rw [← hY, List.length_append, e]; omega
      have HL := fun j => linesT_len ss j
      clear b2 b3 SS1 d0 d1 d2 S hH
      obtain ⟨U, hU⟩ : ∃ U, U = w3 := ⟨_, rfl⟩
      subst hU
      go_wp2
      go_loopw [3, 7] (fun t i wr => ∃ j : Nat, j ≤ ss.length ∧ i = .int .i64 j ∧ t = .string ⟨(Y ++ linesT (ss.take j)).toArray⟩ ∧ U = wr) (fun _ i _ => ss.length - (intOf i).toNat)
      case atStart => exact ⟨0, Nat.zero_le _, rfl, by simp [linesT], rfl⟩
      case round =>
        obtain ⟨j, hj, rfl, rfl, rfl⟩ := hrel
        clear hap
        by_cases hlj : j < ss.length
        · have qj : (j : Int) < (ss.length : Int) := by omega
          obtain ⟨gb, go, e, hgb, hc⟩ := SS3.2 j hlj
          subst e
          have eL := lines_take ss j hlj
          have hlen := HL j
          have hmj : ss.getD j ByteArray.empty ∈ ss := by rw [getD_at ss j hlj]; exact List.getElem_mem hlj
          have hs1 := okH_size (List.all_eq_true.1 hok _ hmj)
          have h2 := tot_take ss j hlj
          have h3 := tot_take_le ss (j + 1)
          have h4 := tot_nonneg (ss.take j)
          obtain ⟨t, hte⟩ : ∃ t, ss.getD j ByteArray.empty = t := ⟨_, rfl⟩
          rw [hte] at hc eL hs1 h2
          have hs2 : t.size ≤ 1048576 := by omega
          obtain ⟨Z, hZe⟩ : ∃ Z, Y ++ linesT (ss.take j) = Z := ⟨_, rfl⟩
          have hZl : Z.length ≤ 130000000 := by rw [← hZe, List.length_append]; omega
          have HN : Hid (Y ++ linesT (ss.take (j + 1)) = Z ++ lnT t) := by show _ = _; rw [eL, ← hZe, List.append_assoc]
          rw [hZe]
          have hL := lastIdx t hs1
          have ap1 := appB Z t
          have ap2 := appB (Z ++ t.data.toList) ⟨#[10, 92, 10]⟩
          have zz := sizeA Z
          have zz2 := sizeA (Z ++ t.data.toList)
          have et : t.data.toList.length = t.size := by simp
          have hZ3 : Z.length + t.size + 3 ≤ 9223372036854775807 := by omega
          have hq1 : (1 : Int) ≤ (t.size : Int) := by omega
          have hI0 : (0 : Int) ≤ (t.size : Int) - 1 := by omega
          have hI1 : (t.size : Int) - 1 < (t.size : Int) := by omega
          clear hte hmj h2 h3 h4 hlen eL hZe HL
          cases he : ends t.data.toList with
          | true =>
            rw [he] at hL
            replace hL : (((t[t.size - 1]'(by omega)).toNat : Int) != 10) = false := hL
            have HM : Hid (Y ++ linesT (ss.take (j + 1)) = Z ++ t.data.toList) := by show _ = _; rw [HN.out, ln_yes he]
            clear HN he
            go_wp2
            go_roundw
            case rel => exact ⟨j + 1, by omega, by go_num, by rw [HM.out], trivial⟩
            case measure => first | (simp [intOf]; omega) | simp [intOf]
          | false =>
            rw [he] at hL
            replace hL : (((t[t.size - 1]'(by omega)).toNat : Int) != 10) = true := hL
            have HM : Hid (Y ++ linesT (ss.take (j + 1)) = Z ++ (t.data.toList ++ [10, 92, 10])) := by show _ = _; rw [HN.out, ln_no he]
            clear HN he
            go_wp2
            go_roundw
            case rel => exact ⟨j + 1, by omega, by go_num, by rw [HM.out]; try rw [List.append_assoc], trivial⟩
            case measure => first | (simp [intOf]; omega) | simp [intOf]
        · have qj : ¬ (j : Int) < (ss.length : Int) := by omega
          have HM : Hid (fpL (l.take (k + 1)) = Y ++ linesT (ss.take j)) := by show _ = _; rw [HT.out, List.take_of_length_le (by omega : ss.length ≤ j)]
          clear HL
          go_wp2
          go_roundw
          case rel => exact ⟨k + 1, by omega, by go_num, by rw [HM.out], B3⟩
          case measure => first | (simp [intOf]; omega) | simp [intOf]
    · have qk : ¬ (k : Int) < (l.length : Int) := by omega
      have HF : Hid (fpL (l.take k) = fpL l) := by show _ = _; rw [List.take_of_length_le (by omega)]
      clear Hr
      go_wp2
      go_ret
      exact ⟨congrArg (fun x : List UInt8 => Ending.returned (.string ⟨x.toArray⟩)) HF.out, hbel⟩
set_option maxRecDepth 20000 in
set_option maxHeartbeats 4000000 in
theorem specFormatPatch (a : Option Addr) (c : Nat) (l : List Hk) (w : World) (h : HB w.heap.size w a l) (hn : l.length ≤ 1048576) (hs : Shortly l) (ht : TotH l) :
    Calls Tryz.prog 8 #[.slice a l.length c] w fun e w' => e = .returned (.agg #[.int .i64 (fpC l), .string (fpT l)]) ∧ Below w.heap.size w w' := by
  have hF := fun W h => specHunksFault a c l W h hn hs
  obtain ⟨p, hp⟩ : ∃ p, w.heap.size = p := ⟨_, rfl⟩
  rw [hp] at h
  obtain ⟨W1, hW1⟩ : ∃ W, w.alloc (.cells #[.int .i64 0, .string ⟨#[]⟩] 30) = W := ⟨_, rfl⟩
  have b1 : Below p w W1 := by rw [← hW1, ← hp]; exact allocBelow _ _
  have r1 : Rf W1 p [.int .i64 0, .string ⟨#[]⟩] := by rw [← hW1, ← hp]; exact Rf.new _ _ _
  have z1 : p < W1.heap.size := by rw [← hW1, ← hp]; simp
  have H1 : HB p W1 a l := h.below (by rw [hp]; exact b1)
  have fault := fun e => (fp_fault (l := l) e)
  have many := fun e k => (fp_many (l := l) e k)
  have good := fun e k => (fp_ok (l := l) e k)
  have all := fun e => hf_all (l := l) e
  obtain ⟨C, hC⟩ : ∃ C, fpC l = C := ⟨_, rfl⟩
  obtain ⟨T, hT⟩ : ∃ T, fpT l = T := ⟨_, rfl⟩
  obtain ⟨F, hFe⟩ : ∃ F, hf l = F := ⟨_, rfl⟩
  simp only [hC, hT, hFe] at fault many good all hF ⊢
  clear hC hT hFe
  have hF1 := hF W1 (H1.mono (by omega))
  go_enter Tryz.func8, Tryz.ntmps8
  go_wp2_with fail
  refine hF1.mono ?_; rintro e w2 ⟨rfl, b2⟩
  have B2 : Below p w w2 := b1.trans (b2.mono (by omega))
  have R2 := r1.below z1 b2
  have z2 : p < w2.heap.size := Nat.lt_of_lt_of_le z1 b2.size
  have H2 : HB p w2 a l := H1.below b2
  clear hF hF1 r1 b1 b2 H1 h
  by_cases e0 : F = 0
  rotate_left
  · have HR : Hid (C = F ∧ T = ⟨#[]⟩) := fault e0
    have q : (F != 0) = true := by simp [e0]
    have d0 := R2.at_ 0 _ rfl
    have d1 := R2.at_ 1 _ rfl
    have f0 := R2.fz 0
    have f1 := R2.fz 1
    clear fault many good all e0
    go_wp2
    refine bodyPost_ret (v := .agg #[.int .i64 F, .string ⟨#[]⟩]) (by simp [results, Tryz.results8, go_sem, d0, d1]) rfl ?_
    try rw [hp]
    exact ⟨ret_tx HR.out.1.symm HR.out.2.symm, below2 B2 _ _⟩
  subst e0
  obtain ⟨hl, hall⟩ := all rfl
  have HMany : Hid (8000 < (fpL l).length → C = 2 ∧ T = ⟨#[]⟩) := fun k => many rfl k
  have HGood : Hid (¬ 8000 < (fpL l).length → C = 0 ∧ T = ⟨(fpL l).toArray⟩) := fun k => good rfl k
  have hTx := l3Text a c l w2 (H2.mono (by omega)) hl hall ht
  have zF := sizeA (fpL l)
  obtain ⟨X, hX⟩ : ∃ X : ByteArray, (⟨(fpL l).toArray⟩ : ByteArray) = X := ⟨_, rfl⟩
  rw [hX] at hTx zF HGood
  clear many good fault all hX hW1
  go_wp2_with fail
  refine hTx.mono ?_; rintro e w3 ⟨rfl, b3⟩
  have B3 : Below p w w3 := B2.trans (b3.mono (by omega))
  have R3 := R2.below z2 b3
  have d0 := R3.at_ 0 _ rfl
  have d1 := R3.at_ 1 _ rfl
  have f0 := R3.fz 0
  have f1 := R3.fz 1
  clear hTx b3 R2 R3 H2
  by_cases hbig : 8000 < (fpL l).length
  · have HR : Hid (C = 2 ∧ T = ⟨#[]⟩) := HMany.out hbig
    have q : (8000 : Int) < (X.size : Int) := by omega
    clear HMany HGood zF hbig
    go_wp2
    refine bodyPost_ret (v := .agg #[.int .i64 2, .string ⟨#[]⟩]) (by simp [results, Tryz.results8, go_sem, d0, d1]) rfl ?_
    try rw [hp]
    exact ⟨ret_tx HR.out.1.symm HR.out.2.symm, below2 B3 _ _⟩
  · have HR : Hid (C = 0 ∧ T = X) := HGood.out hbig
    have q : ¬ (8000 : Int) < (X.size : Int) := by omega
    clear HMany HGood zF hbig
    go_wp2
    refine bodyPost_ret (v := .agg #[.int .i64 0, .string X]) (by simp [results, Tryz.results8, go_sem, d0, d1]) rfl ?_
    try rw [hp]
    exact ⟨ret_tx HR.out.1.symm HR.out.2.symm, below2 B3 _ _⟩
end Go.Proofs.YtnkbjbbaoddfkaaGreatDoor.Fp
