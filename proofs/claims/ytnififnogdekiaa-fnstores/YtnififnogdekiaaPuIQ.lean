/- The contract of the program's PutObject. No statement is proved here. -/
import Derived.Test.YtnififnogdekiaaRows
import Derived.Test.YtnififnogdekiaaLemQ
import Derived.Test.YtnififnogdekiaaDTabQ
import Derived.Test.YtnififnogdekiaaInQ
import Derived.Test.YtnififnogdekiaaHkTQ
import Derived.Test.YtnififnogdekiaaIdMQ
import Derived.Test.YtnififnogdekiaaObLQ
import Derived.Test.YtnififnogdekiaaSfCQ
import Derived.Test.YtnififnogdekiaaGtSQ
import Derived.Test.YtnififnogdekiaaShPQ
import Derived.Test.YtnififnogdekiaaShQQ
import Derived.Test.YtnififnogdekiaaShRQ
import Derived.Test.YtnififnogdekiaaPuLQ
import Derived.Test.YtnififnogdekiaaPuSQ
import Derived.Test.YtnififnogdekiaaShLQ
import Derived.Test.YtnififnogdekiaaShTQ
import Derived.Test.YtnififnogdekiaaPuPQ
import Derived.Test.YtnififnogdekiaaAdCQ
import Derived.WalkKit
import Derived.ProofKit
import Derived.Below
import Derived.WalkSpells
import Derived.Deep.RegionWith
namespace Go.Proofs.Ytnififnogdekiaa
open Go.ChangeShapes Go.WideShapes Go.ChangeAt Go.RowKit

theorem po_of {l : List Ob} {k : Int} {d : ByteArray} (h : sf l = 0) : poR l k d = aC l k d ∧ poL l k d = (if idK k d = 0 then pL l k d else []) ∧ poS l k d = aS l k d := by
  by_cases e : idK k d = 0
  · obtain ⟨h1, h2, h3⟩ := po_p h e
    obtain ⟨g1, g2, _⟩ := a_ok (l := l) e
    exact ⟨h1.trans g1.symm, by rw [if_pos e]; exact h2, h3.trans g2.symm⟩
  · obtain ⟨h1, h2, h3⟩ := po_k h e
    obtain ⟨g1, g2, _⟩ := a_no (l := l) e
    exact ⟨h1.trans g1.symm, by rw [if_neg e]; exact h2, h3.trans g2.symm⟩
theorem a_zero {l : List Ob} {k : Int} {d : ByteArray} (h : aC l k d = 0) : idK k d = 0 ∧ pC l k d = 0 ∧ aL l k d = qL l k d := by
  by_cases e : idK k d = 0
  · obtain ⟨g1, _, g3⟩ := a_ok (l := l) e
    exact ⟨e, g1.symm.trans h, g3⟩
  · obtain ⟨g1, _, _⟩ := a_no (l := l) e
    exact absurd (g1.symm.trans h) e
theorem a_bad {l : List Ob} {k : Int} {d : ByteArray} (h : ¬ aC l k d = 0) : (if idK k d = 0 then pL l k d else []) = [] ∧ aS l k d = ByteArray.empty := by
  by_cases e : idK k d = 0
  · obtain ⟨g1, g2, _⟩ := a_ok (l := l) e
    have hp : ¬ pC l k d = 0 := fun q => h (g1.trans q)
    rw [if_pos e, g2]
    exact p_none hp
  · rw [if_neg e]
    exact ⟨rfl, (a_no (l := l) e).2.1⟩
set_option maxRecDepth 20000 in
set_option maxHeartbeats 2000000 in
theorem implPutObject (a : Option Addr) (c : Nat) (l : List Ob) (k : Int) (d : ByteArray) (w : World) (h : OB w.heap.size w a l) (hs : SmallO l) (hn : l.length ≤ 1048576) (hd : d.size ≤ 1048576) :
    Calls Try.prog 6 #[.slice a l.length c, .int .i64 k, .string d] w fun e w' => SP (poR l k d) (poS l k d) (poL l k d) w e w' := by
  have hA := fun w h => implStoreFault a c l w h hs hn
  have hFF : ¬ sf l = 0 → Hid (poR l k d = sf l ∧ poL l k d = [] ∧ poS l k d = ByteArray.empty) := fun e => po_f e
  have hPP : sf l = 0 → Hid (poR l k d = aC l k d ∧ poL l k d = (if idK k d = 0 then pL l k d else []) ∧ poS l k d = aS l k d) := fun e => po_of e
  have hSh := fun w h (hf : sf l = 0) => shelfOfC a c l w h hf
  have hAd := fun p b w h1 h2 h3 h4 => addC p b l k d w h1 h2 h3 h4 hd
  have hNo : ¬ aC l k d = 0 → (if idK k d = 0 then pL l k d else []) = [] ∧ aS l k d = ByteArray.empty := fun e => a_bad e
  have hLi : sf l = 0 → aC l k d = 0 → ∀ p b x w, Rf w p [.map (some b), x] → Sh w b (aL l k d) → Calls Try.prog 25 #[.pointer (some ⟨p, 0, none⟩)] w fun e w' => OR (if idK k d = 0 then pL l k d else []) w e w' := fun h1 h2 p b x w hR hS => by
    obtain ⟨e1, e2, e3⟩ := a_zero h2
    obtain ⟨q1, q2⟩ := q_perm (asc_of h1) e2
    rw [if_pos e1]
    rw [e3] at hS
    exact listC p b (qL l k d) (pL l k d) x w hR hS ((q2.map (fun o : Ob => o.1)).nodup_iff.1 (asc_ids q1)) (q_len (by have := (sf_zero h1).1; omega)) (q_small hs hd) q1 q2
  obtain ⟨R, hR⟩ : ∃ R, poR l k d = R := ⟨_, rfl⟩
  obtain ⟨S, hS⟩ : ∃ S, poS l k d = S := ⟨_, rfl⟩
  obtain ⟨L, hL⟩ : ∃ L, poL l k d = L := ⟨_, rfl⟩
  rw [hR, hS, hL] at hFF hPP ⊢
  clear hR hS hL
  obtain ⟨W1, hW1⟩ : ∃ W1, w.alloc (.cells #[.int .i64 0, .string ⟨#[]⟩, .slice none 0 0] 28) = W1 := ⟨_, rfl⟩
  have b1 : Below w.heap.size w W1 := by rw [← hW1]; exact allocBelow _ _
  have zW : w.heap.size < W1.heap.size := by rw [← hW1]; simp
  have r1 : Rf W1 w.heap.size [.int .i64 0, .string ⟨#[]⟩, .slice none 0 0] := by rw [← hW1]; exact Rf.new _ _ _
  have A1 := h.below b1
  go_enter Try.func6, Try.ntmps6
  go_wp2_with fail
  refine (hA _ (A1.mono (by omega))).mono ?_; rintro e w2 ⟨rfl, b2⟩
  have A2 := A1.below b2
  have r2 := r1.below zW b2
  have B2 := b1.trans (b2.mono b1.size)
  have z2 : w.heap.size < w2.heap.size := Nat.lt_of_lt_of_le zW b2.size
  clear A1 r1 b1 b2 hA hW1 h zW
  by_cases e0 : sf l = 0
  rotate_left
  · have hC := hFF e0
    have q0 : (sf l != 0) = true := ne_beq e0
    have d0 := r2.at_ 0 _ rfl
    have d1 := r2.at_ 1 _ rfl
    have d2 := r2.at_ 2 _ rfl
    have f0 := r2.fz 0
    have f1 := r2.fz 1
    have f2 := r2.fz 2
    have HB := fun a0 a1 a2 => below3 B2 (Nat.le_refl _) a0 a1 a2
    have HB' : ∀ a0 a1 a2, Hid (Below w.heap.size w (((w2.setCell ⟨w.heap.size, 0, none⟩ a0).setCell ⟨w.heap.size, 1, none⟩ a1).setCell ⟨w.heap.size, 2, none⟩ a2)) := fun a0 a1 a2 => HB a0 a1 a2
    clear hFF hPP HB r2 B2 A2 hSh hAd hLi
    go_wp2
    refine bodyPost_ret (v := .agg #[.int .i64 (sf l), .string ⟨#[]⟩, .slice none 0 0]) (by simp [results, Try.results6, go_sem, d0, d1, d2]) rfl ?_
    obtain ⟨rfl, rfl, rfl⟩ := hC.out
    exact ⟨_, rfl, nilRowO _ _, (HB' _ _ _).out⟩
  have q0 : (sf l != 0) = false := by rw [e0]; rfl
  replace hPP := hPP e0
  clear hFF
  replace hSh := fun w h => hSh w h e0
  replace hLi := hLi e0
  go_wp2_with fail
  refine (hSh _ (A2.mono (by omega))).mono ?_; rintro e w6 ⟨rfl, sR, sS, b6, z6⟩
  have r6 := r2.below z2 b6
  have B6 := B2.trans (b6.mono B2.size)
  have y6 := b6.size
  clear hSh r2 B2 A2 b6
  go_wp2_with fail
  refine (hAd _ _ _ sR (by omega) z6 sS).mono ?_; rintro e w7 ⟨rfl, sR7, sS7, b7, z7, -⟩
  obtain ⟨C, hCe⟩ : ∃ C, aC l k d = C := ⟨_, rfl⟩
  obtain ⟨P, hPe⟩ : ∃ P, (if idK k d = 0 then pL l k d else []) = P := ⟨_, rfl⟩
  obtain ⟨T, hTe⟩ : ∃ T, aS l k d = T := ⟨_, rfl⟩
  obtain ⟨J, hJe⟩ : ∃ J, aL l k d = J := ⟨_, rfl⟩
  rw [hCe] at hNo hPP hLi ⊢
  rw [hPe] at hNo hPP hLi
  rw [hTe] at hNo hPP ⊢
  rw [hJe] at hLi sR7 sS7
  have r7 : Rf w7 w.heap.size [.int .i64 0, .string ⟨#[]⟩, .slice none 0 0] := r6.belowAt (by omega) b7
  have B7 : Below w.heap.size w w7 := B6.trans (b7.mono (by omega))
  clear hAd r6 B6 sR sS b7 hCe hPe hTe hJe
  by_cases eC : C = 0
  · replace hLi := hLi eC
    subst eC
    clear hNo
    have zd : w.heap.size < w7.heap.size := by omega
    go_wp2_with fail
    refine (hLi _ _ _ _ sR7 sS7).mono ?_; rintro e w8 ⟨v8, rfl, o8, b8⟩
    obtain ⟨va, vc, ev⟩ := shapeO o8
    subst ev
    have r8 := Rf.below r7 zd b8
    have d0 := r8.at_ 0 _ rfl
    have d1 := r8.at_ 1 _ rfl
    have d2 := r8.at_ 2 _ rfl
    have f0 := r8.fz 0
    have f1 := r8.fz 1
    have f2 := r8.fz 2
    have B8 := B7.trans (b8.mono B7.size)
    have HB' : ∀ a0 a1 a2, Hid (Below w.heap.size w (((w8.setCell ⟨w.heap.size, 0, none⟩ a0).setCell ⟨w.heap.size, 1, none⟩ a1).setCell ⟨w.heap.size, 2, none⟩ a2)) := fun a0 a1 a2 => below3 B8 (Nat.le_refl _) a0 a1 a2
    have HO : ∀ a0 a1 a2, Hid ((((w8.setCell ⟨w.heap.size, 0, none⟩ a0).setCell ⟨w.heap.size, 1, none⟩ a1).setCell ⟨w.heap.size, 2, none⟩ a2).ownsRow w.heap.size 31 3 (.slice va P.length vc) P.length (ocells P)) := fun a0 a1 a2 =>
      ownMonoO (own3 o8 zd a0 a1 a2) (Nat.le_of_lt zd)
    clear hLi r8 B8 o8 b8 sR7 sS7 r7 B7
    go_wp2
    refine bodyPost_ret (v := .agg #[.int .i64 0, .string T, .slice va P.length vc]) (by simp [results, Try.results6, go_sem, d0, d1, d2]) rfl ?_
    obtain ⟨h1, h2, h3⟩ := hPP.out
    rw [h1, h2, h3]
    exact ⟨_, rfl, (HO _ _ _).out, (HB' _ _ _).out⟩
  · have qC : (C != 0) = true := ne_beq eC
    obtain ⟨n1, n2⟩ := hNo eC
    have d0 := r7.at_ 0 _ rfl
    have d1 := r7.at_ 1 _ rfl
    have d2 := r7.at_ 2 _ rfl
    have f0 := r7.fz 0
    have f1 := r7.fz 1
    have f2 := r7.fz 2
    have HB' : ∀ a0 a1 a2, Hid (Below w.heap.size w (((w7.setCell ⟨w.heap.size, 0, none⟩ a0).setCell ⟨w.heap.size, 1, none⟩ a1).setCell ⟨w.heap.size, 2, none⟩ a2)) := fun a0 a1 a2 => below3 B7 (Nat.le_refl _) a0 a1 a2
    clear hNo hLi r7 B7 sR7 sS7
    go_wp2
    refine bodyPost_ret (v := .agg #[.int .i64 C, .string ⟨#[]⟩, .slice none 0 0]) (by simp [results, Try.results6, go_sem, d0, d1, d2]) rfl ?_
    obtain ⟨h1, h2, h3⟩ := hPP.out
    rw [h1, h2, h3, n1, n2]
    exact ⟨_, rfl, nilRowO _ _, (HB' _ _ _).out⟩
end Go.Proofs.Ytnififnogdekiaa
