/- The contract of the program's PutObject. No statement is proved here. -/
import Derived.Test.YthmneepbamhocakRows
import Derived.Test.YthmneepbamhocakLem
import Derived.Test.YthmneepbamhocakStrs
import Derived.Test.YthmneepbamhocakDTab
import Derived.Test.YthmneepbamhocakOwn
import Derived.Test.YthmneepbamhocakFr
import Derived.Test.YthmneepbamhocakIn
import Derived.Test.YthmneepbamhocakHkT
import Derived.Test.YthmneepbamhocakIdM
import Derived.Test.YthmneepbamhocakObL
import Derived.Test.YthmneepbamhocakSfC
import Derived.Test.YthmneepbamhocakGtS
import Derived.Test.YthmneepbamhocakShP
import Derived.Test.YthmneepbamhocakShQ
import Derived.Test.YthmneepbamhocakShR
import Derived.Test.YthmneepbamhocakShF
import Derived.Test.YthmneepbamhocakPuL
import Derived.Test.YthmneepbamhocakPuS
import Derived.Test.YthmneepbamhocakShL
import Derived.Test.YthmneepbamhocakShT
import Derived.Test.YthmneepbamhocakPuP
import Derived.WalkKit
import Derived.ProofKit
import Derived.Below
import Derived.WalkSpells
import Derived.Deep.RegionWith
namespace Go.Proofs.Ythmneepbamhocak
open Go.ChangeShapes Go.WideShapes Go.ChangeAt Go.RowKit

theorem Rf.belowAt {w w' : World} {b B : Nat} {vs : List Value} (h : Rf w b vs) (hp : b < B) (hb : Below B w w') : Rf w' b vs :=
  ⟨fun k v hk => (hb.cell (p := ⟨b, k, none⟩) hp).trans (h.at_ k v hk), fun k => by
    have e := hb.block b hp
    have h1 := h.fz k
    unfold World.frozen? at h1 ⊢
    rw [e]; exact h1⟩
set_option maxRecDepth 20000 in
set_option maxHeartbeats 2000000 in
theorem implPutObject (a : Option Addr) (c : Nat) (l : List Ob) (k : Int) (d : ByteArray) (w : World) (h : OB w.heap.size w a l) (hs : SmallO l) (hn : l.length ≤ 1048576) (hd : d.size ≤ 1048576) :
    Calls Try.prog 20 #[.slice a l.length c, .int .i64 k, .string d] w fun e w' => SP (poR l k d) (poS l k d) (poL l k d) w e w' := by
  have hA := fun w h => implStoreFault a c l w h hs hn
  have hI := fun w => implIdOf k d w hd
  have hFF : ¬ sf l = 0 → Hid (poR l k d = sf l ∧ poL l k d = [] ∧ poS l k d = ByteArray.empty) := fun e => po_f e
  have hKK : sf l = 0 → ¬ idK k d = 0 → Hid (poR l k d = idK k d ∧ poL l k d = [] ∧ poS l k d = ByteArray.empty) := fun e1 e2 => po_k e1 e2
  have hPP : sf l = 0 → idK k d = 0 → Hid (poR l k d = pC l k d ∧ poL l k d = pL l k d ∧ poS l k d = pS l k d) := fun e1 e2 => po_p e1 e2
  have hSh := fun w h (hf : sf l = 0) => shelfOfC a c l w h hf
  have hPu := fun p b w => putW p b l k d w
  have hNo : ¬ pC l k d = 0 → pL l k d = [] ∧ pS l k d = ByteArray.empty := fun e => p_none e
  have hYe : pC l k d = 0 → pS l k d = idN k d := fun e => if_pos e
  have hLi : sf l = 0 → pC l k d = 0 → ∀ p b x w, Rf w p [.map (some b), x] → Sh w b (qL l k d) → Calls Try.prog 43 #[.pointer (some ⟨p, 0, none⟩)] w fun e w' => OR (pL l k d) w e w' := fun h1 h2 p b x w hR hS => by
    obtain ⟨q1, q2⟩ := q_perm (asc_of h1) h2
    exact listC p b (qL l k d) (pL l k d) x w hR hS ((q2.map (fun o : Ob => o.1)).nodup_iff.1 (asc_ids q1)) (q_len (by have := (sf_zero h1).1; omega)) (q_small hs hd) q1 q2
  obtain ⟨R, hR⟩ : ∃ R, poR l k d = R := ⟨_, rfl⟩
  obtain ⟨S, hS⟩ : ∃ S, poS l k d = S := ⟨_, rfl⟩
  obtain ⟨L, hL⟩ : ∃ L, poL l k d = L := ⟨_, rfl⟩
  rw [hR, hS, hL] at hFF hKK hPP ⊢
  clear hR hS hL
  obtain ⟨W1, hW1⟩ : ∃ W1, w.alloc (.cells #[.int .i64 0, .string ⟨#[]⟩, .slice none 0 0] 36) = W1 := ⟨_, rfl⟩
  have b1 : Below w.heap.size w W1 := by rw [← hW1]; exact allocBelow _ _
  have zW : w.heap.size < W1.heap.size := by rw [← hW1]; simp
  have r1 : Rf W1 w.heap.size [.int .i64 0, .string ⟨#[]⟩, .slice none 0 0] := by rw [← hW1]; exact Rf.new _ _ _
  have A1 := h.below b1
  go_enter Try.func20, Try.ntmps20
  go_wp2_with fail
  refine (hA _ (A1.mono (by omega))).mono ?_; rintro e w2 ⟨rfl, b2⟩
  have A2 := A1.below b2
  have r2 := r1.below zW b2
  have B2 := b1.trans (b2.mono b1.size)
  have z2 : w.heap.size < w2.heap.size := Nat.lt_of_lt_of_le zW b2.size
  clear A1 r1 b1 b2 hA hW1 h zW
  by_cases e0 : sf l = 0
  rotate_left
  · have hC := hFF e0
    have q0 : (sf l != 0) = true := ne_beq e0
    have d0 := r2.at_ 0 _ rfl
    have d1 := r2.at_ 1 _ rfl
    have d2 := r2.at_ 2 _ rfl
    have f0 := r2.fz 0
    have f1 := r2.fz 1
    have f2 := r2.fz 2
    have HB := fun a0 a1 a2 => below3 B2 (Nat.le_refl _) a0 a1 a2
    have HB' : ∀ a0 a1 a2, Hid (Below w.heap.size w (((w2.setCell ⟨w.heap.size, 0, none⟩ a0).setCell ⟨w.heap.size, 1, none⟩ a1).setCell ⟨w.heap.size, 2, none⟩ a2)) := fun a0 a1 a2 => HB a0 a1 a2
    clear hFF hKK hPP hI HB r2 B2 A2 hSh hPu hLi
    go_wp2
    refine bodyPost_ret (v := .agg #[.int .i64 (sf l), .string ⟨#[]⟩, .slice none 0 0]) (by simp [results, Try.results20, go_sem, d0, d1, d2]) rfl ?_
    obtain ⟨rfl, rfl, rfl⟩ := hC.out
    exact ⟨_, rfl, nilRowO _ _, (HB' _ _ _).out⟩
  have q0 : (sf l != 0) = false := by rw [e0]; rfl
  replace hKK := hKK e0
  replace hPP := hPP e0
  clear hFF
  go_wp2_with fail
  refine (hI _).mono ?_; rintro e w3 ⟨rfl, b3⟩
  have A3 := A2.below b3
  have r3 := r2.below z2 b3
  have B3 := B2.trans (b3.mono B2.size)
  have z3 : w.heap.size < w3.heap.size := Nat.lt_of_lt_of_le z2 b3.size
  clear A2 r2 B2 b3 z2 hI
  obtain ⟨W4, hW4⟩ : ∃ W, w3.alloc (.cells #[.int .i64 0, .string ⟨#[]⟩] 23) = W := ⟨_, rfl⟩
  have b4 : Below w3.heap.size w3 W4 := by rw [← hW4]; exact allocBelow _ _
  have z4 : W4.heap.size = w3.heap.size + 1 := by rw [← hW4]; simp
  have t4 : Rf W4 w3.heap.size [.int .i64 0, .string ⟨#[]⟩] := by rw [← hW4]; exact Rf.new _ _ _
  have u0 := t4.at_ 0 _ rfl
  have u1 := t4.at_ 1 _ rfl
  have g0 := t4.fz 0
  have g1 := t4.fz 1
  have t5 := (t4.set (o := 0) (by simp) (.int .i64 (idK k d))).set (o := 1) (by simp) (.string (idT k d))
  have r5 := ((r3.below z3 b4).other (b' := w3.heap.size) (o := 0) (by omega) (.int .i64 (idK k d))).other (b' := w3.heap.size) (o := 1) (by omega) (.string (idT k d))
  have B5 := below_sets (B3.trans (b4.mono B3.size)) (show w.heap.size ≤ w3.heap.size by omega) (.int .i64 (idK k d)) (.string (idT k d))
  have A5 := (A3.below b4)
  have bS : Below w3.heap.size w3 ((W4.setCell ⟨w3.heap.size, 0, none⟩ (.int .i64 (idK k d))).setCell ⟨w3.heap.size, 1, none⟩ (.string (idT k d))) := below_sets b4 (Nat.le_refl _) _ _
  have A6 := A3.below bS
  have z5 : ((W4.setCell ⟨w3.heap.size, 0, none⟩ (.int .i64 (idK k d))).setCell ⟨w3.heap.size, 1, none⟩ (.string (idT k d))).heap.size = w3.heap.size + 1 := by simp [z4]
  obtain ⟨W5, hW5⟩ : ∃ W, (W4.setCell ⟨w3.heap.size, 0, none⟩ (.int .i64 (idK k d))).setCell ⟨w3.heap.size, 1, none⟩ (.string (idT k d)) = W := ⟨_, rfl⟩
  rw [hW5] at t5 r5 B5 A6 z5
  replace t5 : Rf W5 w3.heap.size [.int .i64 (idK k d), .string (idT k d)] := t5
  have k0 := t5.at_ 0 _ rfl
  have k1 := t5.at_ 1 _ rfl
  have z5l : w3.heap.size < W5.heap.size := by omega
  clear A5 bS t4 r3 B3 A3 b4 z4 z5
  by_cases eK : idK k d = 0
  rotate_left
  · have hC := hKK eK
    have qK : (idK k d != 0) = true := ne_beq eK
    have d0 := r5.at_ 0 _ rfl
    have d1 := r5.at_ 1 _ rfl
    have d2 := r5.at_ 2 _ rfl
    have f0 := r5.fz 0
    have f1 := r5.fz 1
    have f2 := r5.fz 2
    have HB := fun a0 a1 a2 => below3 B5 (Nat.le_refl _) a0 a1 a2
    have HB' : ∀ a0 a1 a2, Hid (Below w.heap.size w (((W5.setCell ⟨w.heap.size, 0, none⟩ a0).setCell ⟨w.heap.size, 1, none⟩ a1).setCell ⟨w.heap.size, 2, none⟩ a2)) := fun a0 a1 a2 => HB a0 a1 a2
    clear hKK hPP HB r5 B5 A6 t5 hSh hPu hLi
    go_wp2
    refine bodyPost_ret (v := .agg #[.int .i64 (idK k d), .string ⟨#[]⟩, .slice none 0 0]) (by simp [results, Try.results20, go_sem, d0, d1, d2]) rfl ?_
    obtain ⟨rfl, rfl, rfl⟩ := hC.out
    exact ⟨_, rfl, nilRowO _ _, (HB' _ _ _).out⟩
  replace hPP := hPP eK
  have qK : (idK k d != 0) = false := by rw [eK]; rfl
  obtain ⟨hk, htf⟩ := idK_in eK
  have eT := idT_ok eK
  rw [eT] at k1 t5 hW5
  rw [eK] at k0 t5 hW5
  rw [eK, eT]
  clear hKK qK eK eT
  replace hSh := fun w h => hSh w h e0
  replace hLi := hLi e0
  go_wp2_with fail
  refine (hSh _ (A6.mono (by omega))).mono ?_; rintro e w6 ⟨rfl, sR, sS, b6, z6⟩
  have r6 := r5.below (by omega) b6
  have t6 := t5.below (by omega) b6
  have B6 := B5.trans (b6.mono B5.size)
  have k1 := t6.at_ 1 _ rfl
  have y6 := b6.size
  clear hSh r5 B5 A6 t5 b6 k0
  go_wp2_with fail
  refine (hPu _ _ _ sR (by omega) z6 sS).mono ?_; rintro e w7 ⟨rfl, sR7, sS7, b7, z7⟩
  obtain ⟨C, hCe⟩ : ∃ C, pC l k d = C := ⟨_, rfl⟩
  obtain ⟨P, hPe⟩ : ∃ P, pL l k d = P := ⟨_, rfl⟩
  obtain ⟨T, hTe⟩ : ∃ T, pS l k d = T := ⟨_, rfl⟩
  obtain ⟨J, hJe⟩ : ∃ J, qL l k d = J := ⟨_, rfl⟩
  rw [hCe] at hNo hPP hLi hYe ⊢
  rw [hPe] at hNo hPP hLi
  rw [hTe] at hNo hPP hYe
  rw [hJe] at hLi sR7 sS7
  have r7 : Rf w7 w.heap.size [.int .i64 0, .string ⟨#[]⟩, .slice none 0 0] := r6.belowAt (by omega) b7
  have t7 := t6.belowAt (by omega) b7
  have B7 : Below w.heap.size w w7 := B6.trans (b7.mono (by omega))
  have k1 := t7.at_ 1 _ rfl
  clear hPu r6 t6 B6 sR sS b7 hCe hPe hTe hJe
  by_cases eC : C = 0
  · replace hLi := hLi eC
    replace hYe := hYe eC
    subst eC
    clear hNo
    have sR8 := sR7.drewM
    have sS8 := sS7.drew
    have r7d := r7.drewM
    have B7d := below_drew B7
    have k1d : w7.drew.cell? ⟨w3.heap.size, 1, none⟩ = some (.string (idN k d)) := k1
    have zd : w.heap.size < w7.drew.heap.size := by show w.heap.size < w7.heap.size; omega
    clear sR7 sS7 r7 B7 t7
    go_wp2
    go_region_with (go_at_call 43; refine (hLi _ _ _ _ sR8 sS8).mono ?_; rintro e w8 ⟨v8, rfl, o8, b8⟩; obtain ⟨va, vc, ev⟩ := shapeO o8; subst ev; have k8 := zcell b8 k1d; have r8 := Rf.below r7d zd b8; have d0 := r8.at_ 0 _ rfl; have d1 := r8.at_ 1 _ rfl; have d2 := r8.at_ 2 _ rfl; have f0 := r8.fz 0; have f1 := r8.fz 1; have f2 := r8.fz 2)
    all_goals
      have B8 := B7d.trans (b8.mono B7d.size)
      have HB' : ∀ a0 a1 a2, Hid (Below w.heap.size w (((w8.setCell ⟨w.heap.size, 0, none⟩ a0).setCell ⟨w.heap.size, 1, none⟩ a1).setCell ⟨w.heap.size, 2, none⟩ a2)) := fun a0 a1 a2 => below3 B8 (Nat.le_refl _) a0 a1 a2
      have HO : ∀ a0 a1 a2, Hid ((((w8.setCell ⟨w.heap.size, 0, none⟩ a0).setCell ⟨w.heap.size, 1, none⟩ a1).setCell ⟨w.heap.size, 2, none⟩ a2).ownsRow w.heap.size 43 3 (.slice va P.length vc) P.length (ocells P)) := fun a0 a1 a2 =>
        ownMonoO (own3 o8 zd a0 a1 a2) (Nat.le_of_lt zd)
      clear hLi r8 B8 o8 b8 sR8 sS8 r7d B7d
      go_wp2
      refine bodyPost_ret (v := .agg #[.int .i64 0, .string (idN k d), .slice va P.length vc]) (by simp [results, Try.results20, go_sem, d0, d1, d2]) rfl ?_
      obtain ⟨h1, h2, h3⟩ := hPP.out
      rw [h1, h2, h3, hYe]
      exact ⟨_, rfl, (HO _ _ _).out, (HB' _ _ _).out⟩
  · have qC : (C != 0) = true := ne_beq eC
    obtain ⟨n1, n2⟩ := hNo eC
    have d0 := r7.at_ 0 _ rfl
    have d1 := r7.at_ 1 _ rfl
    have d2 := r7.at_ 2 _ rfl
    have f0 := r7.fz 0
    have f1 := r7.fz 1
    have f2 := r7.fz 2
    have HB' : ∀ a0 a1 a2, Hid (Below w.heap.size w (((w7.setCell ⟨w.heap.size, 0, none⟩ a0).setCell ⟨w.heap.size, 1, none⟩ a1).setCell ⟨w.heap.size, 2, none⟩ a2)) := fun a0 a1 a2 => below3 B7 (Nat.le_refl _) a0 a1 a2
    clear hNo hLi r7 B7 sR7 sS7 t7
    go_wp2
    refine bodyPost_ret (v := .agg #[.int .i64 C, .string ⟨#[]⟩, .slice none 0 0]) (by simp [results, Try.results20, go_sem, d0, d1, d2]) rfl ?_
    obtain ⟨h1, h2, h3⟩ := hPP.out
    rw [h1, h2, h3, n1, n2]
    exact ⟨_, rfl, nilRowO _ _, (HB' _ _ _).out⟩
end Go.Proofs.Ythmneepbamhocak
