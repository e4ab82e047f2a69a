/- The contract of impl.fileAt: the file at a path, looked for by halves. No statement is proved here. -/
import Derived.Test.YtkgcpndnlefkoaaGreatDoorRows
import Derived.Test.YtkgcpndnlefkoaaGreatDoorLemQ
import Derived.Test.YtkgcpndnlefkoaaGreatDoorDTabQ
import Derived.Test.YtkgcpndnlefkoaaGreatDoorInQ
import Derived.Test.YtkgcpndnlefkoaaGreatDoorLFLemQ
import Derived.Test.YtkgcpndnlefkoaaGreatDoorFfCQ
import Derived.Test.YtkgcpndnlefkoaaGreatDoorShelfCQ
import Derived.Test.YtkgcpndnlefkoaaGreatDoorDfMQ
import Derived.Test.YtkgcpndnlefkoaaGreatDoorDfBQ
import Derived.WalkKit
import Derived.ProofKit
import Derived.Below
import Derived.WalkSpells
import Derived.Deep.QuietTactic
import Derived.BigQuiet
import Derived.Deep.RegionWith
import Derived.Deep.RegionHeld
import Derived.Deep.RegionLaw
import Derived.Deep.CutRange
import Derived.Maps.AppendAt
import Derived.Laws.BitsLemmas
import Derived.Laws.Cover1
set_option linter.unusedVariables false
namespace Go.Proofs.YtkgcpndnlefkoaaGreatDoor.Fl
open Go.ChangeShapes Go.WideShapes Go.ChangeAt Go.RowKit

def cf (a b : ByteArray) : Int := Lib.compareBytes a.data.toList b.data.toList
theorem cf_lt {a b : ByteArray} : cf a b < 0 ↔ plt a b := cmp_lt0 _ _
theorem cf_eq {a b : ByteArray} : cf a b = 0 ↔ a = b := by
  unfold cf
  rw [cmp_eq0]
  constructor
  · intro h; exact bytes_inj2 (by rw [ByteArray.toList_eq, ByteArray.toList_eq, h])
  · rintro rfl; rfl
/-- Files that rise by path. -/
def Rise (l : List Ob) : Prop := ∀ i j, i < j → j < l.length → plt (l.getD i onil).1 (l.getD j onil).1
def CutsF (l : List Ob) (p : ByteArray) (m : Nat) : Prop := m ≤ l.length ∧ (∀ k, k < m → cf (l.getD k onil).1 p < 0) ∧ (∀ k, m ≤ k → k < l.length → 0 ≤ cf (l.getD k onil).1 p)
def hitF (l : List Ob) (p : ByteArray) (m : Nat) : Bool := decide (m < l.length) && (cf (l.getD m onil).1 p == 0)
theorem cuts_ex {l : List Ob} (h : Rise l) (p : ByteArray) : ∃ m, CutsF l p m := by
  refine ⟨l.findIdx (fun f => !Op.bytesLess f.1.toList p.toList), List.findIdx_le_length, fun k hk => ?_, fun k hk hl => ?_⟩
  · have hkl : k < l.length := Nat.lt_of_lt_of_le hk List.findIdx_le_length
    have := List.not_of_lt_findIdx hk
    rw [cf_lt, ← plt_less]
    simpa [List.getD, hkl] using this
  · have hm : l.findIdx (fun f => !Op.bytesLess f.1.toList p.toList) < l.length := by omega
    have h0 := List.findIdx_getElem (w := hm)
    generalize l.findIdx (fun f => !Op.bytesLess f.1.toList p.toList) = m at hk hm h0
    have h1 : ¬ plt (l.getD m onil).1 p := by
      rw [← plt_no]
      simpa [List.getD, hm] using h0
    have h2 : ¬ plt (l.getD k onil).1 p := by
      by_cases e : k = m
      · rw [e]; exact h1
      · exact fun q => h1 (plt_tr _ _ _ (h m k (by omega) hl) q)
    have := mt cf_lt.1 h2
    omega
theorem hit_yes {l : List Ob} {p : ByteArray} {m : Nat} (h : CutsF l p m) (e : hitF l p m = true) : m < l.length ∧ fa l p = l.getD m onil := by
  obtain ⟨h1, h2⟩ := Bool.and_eq_true_iff.1 e
  have hm := of_decide_eq_true h1
  have h3 := cf_eq.1 (eq_of_beq h2)
  exact ⟨hm, fa_at hm h3 (fun j hj q => by have := h.2.1 j hj; rw [cf_eq.2 q] at this; omega)⟩
theorem hit_no {l : List Ob} {p : ByteArray} {m : Nat} (hr : Rise l) (h : CutsF l p m) (e : hitF l p m = false) : fa l p = onil := by
  refine fa_none (fun k hk q => ?_)
  by_cases h1 : k < m
  · have := h.2.1 k h1; rw [cf_eq.2 q] at this; omega
  · by_cases h2 : k = m
    · subst h2
      unfold hitF at e
      rw [decide_eq_true hk, cf_eq.2 q] at e
      cases e
    · have h3 := hr m k (by omega) hk
      rw [q] at h3
      have h4 := h.2.2 m (Nat.le_refl _) (by omega)
      have := cf_lt.2 h3
      omega
set_option maxRecDepth 20000 in
set_option maxHeartbeats 1000000 in
theorem cmpFC (f : Ob) (p : ByteArray) (w : World) : Calls Tryz.prog 33 #[fv f, .string p] w fun e w' => e = .returned (.int .i64 (cf f.1 p)) ∧ Below w.heap.size w w' := by
  obtain ⟨x0, x1, x2⟩ := f
  unfold fv
  have hB := fun W => Tryz.strings_Compare x0 p W
  have hcb : cf x0 p = Lib.compareBytes x0.data.toList p.data.toList := rfl
  rw [← hcb] at hB
  obtain ⟨K, hK⟩ : ∃ K, cf x0 p = K := ⟨_, rfl⟩
  simp only [hK] at hB ⊢
  clear hcb hK
  have b1 := allocBelow w (.cells #[.string x0, .int .i64 x1, .string x2] 42)
  go_enter Tryz.func33, Tryz.ntmps33
  go_wp2_with fail
  refine (hB _).mono ?_; rintro e w9 ⟨rfl, rfl⟩
  go_wp2
  go_ret
  exact ⟨rfl, b1⟩
set_option maxRecDepth 20000 in
set_option maxHeartbeats 4000000 in
theorem searchF (a : Option Addr) (c : Nat) (l : List Ob) (T : ByteArray) (p : Nat) (w : World) (h : OB w.heap.size w a l) (hn : l.length ≤ 1048576) (hp : CutsF l T p) :
    Calls Tryz.prog 32 #[.slice a l.length c, .string T, .func (.func 33) #[] #[]] w fun e w' => e = .returned (.tuple #[.int .i64 p, .bool (hitF l T p)]) ∧ Below w.heap.size w w' := by
  obtain ⟨hpn, hlo, hhi⟩ := hp
  have hL : Hid (∀ k, k < p → cf (l.getD k onil).1 T < 0) := hlo
  have hH : Hid (∀ k, p ≤ k → k < l.length → 0 ≤ cf (l.getD k onil).1 T) := hhi
  clear hlo hhi
  go_enter Tryz.func32, Tryz.ntmps32
  go_wp2
  go_loopw [9, 10, 11] (fun vi vj _h wr => ∃ i j : Nat, i ≤ p ∧ p ≤ j ∧ j ≤ l.length ∧ vi = .int .i64 i ∧ vj = .int .i64 j ∧ Below w.heap.size w wr) (fun vi vj _ _ => (intOf vj).toNat - (intOf vi).toNat)
  case atStart => exact ⟨0, l.length, Nat.zero_le _, hpn, Nat.le_refl _, rfl, rfl, Below.refl _ _⟩
  case round =>
    obtain ⟨i, j, hi, hj, hjl, rfl, rfl, hbel⟩ := hrel
    have h3 := h.below hbel
    have hsz := hbel.size
    by_cases hlt : i < j
    · have q : (i : Int) < (j : Int) := by omega
      obtain ⟨m, hm⟩ : ∃ m, (i + j) / 2 = m := ⟨_, rfl⟩
      have hmj : m < j := by omega
      have him : i ≤ m := by omega
      obtain ⟨g, off, e, _, d0, d1, d2⟩ := h3 m (by omega)
      subst e
      have hc1 : m < p → cf (l.getD m onil).1 T < 0 := fun q => hL.out m q
      have hc2 : p ≤ m → 0 ≤ cf (l.getD m onil).1 T := fun q => hH.out m q (by omega)
      obtain ⟨X, hXe⟩ : ∃ X, l.getD m onil = X := ⟨_, rfl⟩
      obtain ⟨x0, x1, x2⟩ := X
      rw [hXe] at d0 d1 d2 hc1 hc2
      simp only [] at d0 d1 d2 hc1 hc2
      have hB := fun W => cmpFC (x0, x1, x2) T W
      unfold fv at hB
      simp only [] at hB
      obtain ⟨K, hK⟩ : ∃ K, cf x0 T = K := ⟨_, rfl⟩
      rw [hK] at hc1 hc2 hB
      have hmI : (m : Int) < (l.length : Int) := by omega
      have hme : ((i : Int) + (j : Int)) / 2 = (m : Int) := by omega
      have HM : Hid (i ≤ m ∧ m < j) := ⟨him, hmj⟩
      clear hXe hK hm him hmj h3
      by_cases hK0 : K < 0
      · have hmp : m < p := by
          rcases Nat.lt_or_ge m p with q | q
          · exact q
          · exact absurd hK0 (by have := hc2 q; omega)
        clear hc1 hc2 hL hH
        go_wp2_with fail
        refine (hB _).mono ?_; rintro e w9 ⟨rfl, b9⟩
        have HB : Hid (Below w.heap.size w w9) := hbel.trans (b9.mono hsz)
        clear hbel b9 hB
        go_wp2
        obtain ⟨him, hmj⟩ := HM.out
        go_roundw
        case rel => exact ⟨m + 1, j, by omega, hj, hjl, by go_num, by first | rfl | trivial, HB.out⟩
        case measure => simp [intOf]; omega
      · have hmp : p ≤ m := by
          rcases Nat.lt_or_ge m p with q | q
          · exact absurd (hc1 q) hK0
          · exact q
        clear hc1 hc2 hL hH
        go_wp2_with fail
        refine (hB _).mono ?_; rintro e w9 ⟨rfl, b9⟩
        have HB : Hid (Below w.heap.size w w9) := hbel.trans (b9.mono hsz)
        clear hbel b9 hB
        go_wp2
        obtain ⟨him, hmj⟩ := HM.out
        go_roundw
        case rel => exact ⟨i, m, hi, hmp, by omega, by first | rfl | trivial, by first | rfl | trivial, HB.out⟩
        case measure => simp [intOf]; omega
    · have q : ¬ (i : Int) < (j : Int) := by omega
      have ei : i = p := by omega
      subst ei
      by_cases hin : i < l.length
      · have qn : (i : Int) < (l.length : Int) := by omega
        obtain ⟨g, off, e, _, d0, d1, d2⟩ := h3 i hin
        subst e
        have hR : hitF l T i = (cf (l.getD i onil).1 T == 0) := by unfold hitF; simp [hin]
        obtain ⟨X, hXe⟩ : ∃ X, l.getD i onil = X := ⟨_, rfl⟩
        obtain ⟨x0, x1, x2⟩ := X
        rw [hXe] at d0 d1 d2 hR
        simp only [] at d0 d1 d2 hR
        have hB := fun W => cmpFC (x0, x1, x2) T W
        unfold fv at hB
        simp only [] at hB
        obtain ⟨K, hK⟩ : ∃ K, cf x0 T = K := ⟨_, rfl⟩
        rw [hK] at hR hB
        have HR : Hid (hitF l T i = (K == 0)) := hR
        clear hXe hK hR hL hH h3
        go_wp2_with fail
        refine (hB _).mono ?_; rintro e w9 ⟨rfl, b9⟩
        have HB : Hid (Below w.heap.size w w9) := hbel.trans (b9.mono hsz)
        clear hbel b9 hB
        go_wp2
        refine bodyPost_ret (v := .tuple #[.int .i64 i, .bool (K == 0)]) (by simp [results, Tryz.results32, go_sem]) rfl ?_
        exact ⟨by rw [HR.out], HB.out⟩
      · have qn : ¬ (i : Int) < (l.length : Int) := by omega
        have HR : Hid (hitF l T i = false) := by show _ = _; unfold hitF; simp [hin]
        have HB : Hid (Below w.heap.size w wr) := hbel
        clear hL hH h3 hbel
        go_wp2
        refine bodyPost_ret (v := .tuple #[.int .i64 i, .bool false]) (by simp [results, Tryz.results32, go_sem]) rfl ?_
        exact ⟨by rw [HR.out], HB.out⟩
set_option maxRecDepth 20000 in
set_option maxHeartbeats 2000000 in
theorem fileAtC (a : Option Addr) (c : Nat) (l : List Ob) (p : ByteArray) (w : World) (h : OB w.heap.size w a l) (hn : l.length ≤ 1048576) (hr : Rise l) :
    Calls Tryz.prog 14 #[.slice a l.length c, .string p] w fun e w' => e = .returned (fv (fa l p)) ∧ Below w.heap.size w w' := by
  obtain ⟨m, hm⟩ := cuts_ex hr p
  have hY : hitF l p m = true → Hid (m < l.length ∧ fa l p = l.getD m onil) := fun e => hit_yes hm e
  have hN : hitF l p m = false → Hid (fa l p = onil) := fun e => hit_no hr hm e
  obtain ⟨W1, hW1⟩ : ∃ W, w.alloc (.cells #[.string ⟨#[]⟩, .int .i64 0, .string ⟨#[]⟩] 42) = W := ⟨_, rfl⟩
  have b1 : Below w.heap.size w W1 := by rw [← hW1]; exact allocBelow _ _
  have zW : w.heap.size < W1.heap.size := by rw [← hW1]; simp
  have r1 : Rf W1 w.heap.size [.string ⟨#[]⟩, .int .i64 0, .string ⟨#[]⟩] := by rw [← hW1]; exact Rf.new _ _ _
  have h1 := h.below b1
  have hS := searchF a c l p m W1 (h1.mono b1.size) hn hm
  obtain ⟨R, hR⟩ : ∃ R, fa l p = R := ⟨_, rfl⟩
  obtain ⟨H, hH⟩ : ∃ H, hitF l p m = H := ⟨_, rfl⟩
  rw [hR] at hY hN ⊢
  rw [hH] at hY hN hS
  clear hR hH h hm hr
  go_enter Tryz.func14, Tryz.ntmps14
  go_wp2_with fail
  refine hS.mono ?_; rintro e w2 ⟨rfl, b2⟩
  have r2 := r1.below zW b2
  have B2 := b1.trans (b2.mono b1.size)
  have h2 := h1.below b2
  have c0 := r2.at_ 0 _ rfl
  have c1 := r2.at_ 1 _ rfl
  have c2 := r2.at_ 2 _ rfl
  have f0 := r2.fz 0
  have f1 := r2.fz 1
  have f2 := r2.fz 2
  clear hS r1 b1 h1 b2 hW1 zW
  cases H
  · have HR := hN rfl
    have RV := ((r2.set (o := 0) (by simp) (.string ⟨#[]⟩)).set (o := 1) (by simp) (.int .i64 0)).set (o := 2) (by simp) (.string ⟨#[]⟩)
    have BV := ((B2.setCell (p := ⟨w.heap.size, 0, none⟩) (Nat.le_refl _) (.string ⟨#[]⟩)).setCell (p := ⟨w.heap.size, 1, none⟩) (Nat.le_refl _) (.int .i64 0)).setCell (p := ⟨w.heap.size, 2, none⟩) (Nat.le_refl _) (.string ⟨#[]⟩)
    obtain ⟨V, hV⟩ : ∃ V, ((w2.setCell ⟨w.heap.size, 0, none⟩ (.string ⟨#[]⟩)).setCell ⟨w.heap.size, 1, none⟩ (.int .i64 0)).setCell ⟨w.heap.size, 2, none⟩ (.string ⟨#[]⟩) = V := ⟨_, rfl⟩
    rw [hV] at RV BV
    have HV : Hid (_ = V) := hV
    have v0 := RV.at_ 0 _ rfl
    have v1 := RV.at_ 1 _ rfl
    have v2 := RV.at_ 2 _ rfl
    clear hV RV hY hN r2 B2
    go_wp2
    rw [HV.out]
    refine bodyPost_ret (v := .agg #[.string ⟨#[]⟩, .int .i64 0, .string ⟨#[]⟩]) (by simp [results, Tryz.results14, go_sem, v0, v1, v2]) rfl ?_
    exact ⟨(fv_eq onil R HR.out.symm), BV⟩
  · obtain ⟨hml, HR⟩ := (hY rfl).out
    have q : (m : Int) < (l.length : Int) := by omega
    obtain ⟨g, off, e, _, d0, d1, d2⟩ := h2 m hml
    subst e
    obtain ⟨X, hXe⟩ : ∃ X, l.getD m onil = X := ⟨_, rfl⟩
    obtain ⟨x0, x1, x2⟩ := X
    rw [hXe] at d0 d1 d2 HR
    simp only [] at d0 d1 d2
    have HRr : Hid (R = (x0, x1, x2)) := HR
    clear HR hXe h2
    have RV := ((r2.set (o := 0) (by simp) (.string x0)).set (o := 1) (by simp) (.int .i64 x1)).set (o := 2) (by simp) (.string x2)
    have BV := ((B2.setCell (p := ⟨w.heap.size, 0, none⟩) (Nat.le_refl _) (.string x0)).setCell (p := ⟨w.heap.size, 1, none⟩) (Nat.le_refl _) (.int .i64 x1)).setCell (p := ⟨w.heap.size, 2, none⟩) (Nat.le_refl _) (.string x2)
    obtain ⟨V, hV⟩ : ∃ V, ((w2.setCell ⟨w.heap.size, 0, none⟩ (.string x0)).setCell ⟨w.heap.size, 1, none⟩ (.int .i64 x1)).setCell ⟨w.heap.size, 2, none⟩ (.string x2) = V := ⟨_, rfl⟩
    rw [hV] at RV BV
    have HV : Hid (_ = V) := hV
    have v0 := RV.at_ 0 _ rfl
    have v1 := RV.at_ 1 _ rfl
    have v2 := RV.at_ 2 _ rfl
    clear hV RV hY hN r2 B2
    go_wp2
    rw [HV.out]
    refine bodyPost_ret (v := .agg #[.string x0, .int .i64 x1, .string x2]) (by simp [results, Tryz.results14, go_sem, v0, v1, v2]) rfl ?_
    exact ⟨(fv_eq (x0, x1, x2) R HRr.out.symm), BV⟩
end Go.Proofs.YtkgcpndnlefkoaaGreatDoor.Fl
/- Files without a fault rise by path. No statement is proved here. -/
set_option linter.unusedVariables false
namespace Go.Proofs.YtkgcpndnlefkoaaGreatDoor.Fl
open Go.ChangeShapes Go.WideShapes Go.ChangeAt Go.RowKit

theorem leF_no {a b : ByteArray} (h : leF a b = false) : plt b a := by
  unfold leF at h
  have h1 := h
  simp only [Bool.or_eq_false_iff] at h1
  rcases plt_tri a b with q | q | q
  · rw [(plt_less).2 q] at h1; exact absurd h1.1 (by decide)
  · subst q; simp at h1
  · exact q
theorem ffl_each {l : List Ob} (h : ffl l = 0) : l.length ≤ 60 ∧ ∀ k, k < l.length → fiF l k = 0 := by
  have hE : fiE l = 0 := by
    by_cases q : fiE l = 0
    · exact q
    · rw [ffl_bad q] at h; exact h
  have hN : ¬ 60 < l.length := fun q => by rw [fiE_many q] at hE; exact absurd hE (by decide)
  refine ⟨by omega, fun k hk => ?_⟩
  induction k using Nat.strongRecOn with
  | _ k ih =>
    by_cases q : fiF l k = 0
    · exact q
    · rw [fiE_bad hN hk (fun j hj => ih j hj (by omega)) q] at hE; exact absurd hE q
theorem ffl_rise {l : List Ob} (h : ffl l = 0) : Rise l := by
  obtain ⟨_, hk⟩ := ffl_each h
  have step : ∀ k, k + 1 < l.length → plt (l.getD k onil).1 (l.getD (k + 1) onil).1 := fun k hk1 => by
    have q := hk (k + 1) hk1
    unfold fiF at q
    rw [Nat.add_sub_cancel] at q
    split at q
    · split at q
      · exact absurd q (by decide)
      · rename_i n
        have : leF (l.getD (k + 1) onil).1 (l.getD k onil).1 = false := by
          cases c : leF (l.getD (k + 1) onil).1 (l.getD k onil).1 with
          | false => rfl
          | true => exact absurd ⟨Nat.succ_pos k, c⟩ n
        exact leF_no this
    · rename_i n; exact absurd q n
  intro i j hij hj
  induction j with
  | zero => omega
  | succ j ih =>
    by_cases e : i = j
    · subst e; exact step i hj
    · exact plt_tr _ _ _ (ih (by omega) (by omega)) (step j hj)
end Go.Proofs.YtkgcpndnlefkoaaGreatDoor.Fl
