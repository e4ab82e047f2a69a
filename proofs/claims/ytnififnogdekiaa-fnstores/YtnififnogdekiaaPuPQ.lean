/- The contracts of PutObject (the program's and the specification's). No statement is proved here. -/
import Derived.Test.YtnififnogdekiaaRows
import Derived.Test.YtnififnogdekiaaLemQ
import Derived.Test.YtnififnogdekiaaDTabQ
import Derived.Test.YtnififnogdekiaaInQ
import Derived.Test.YtnififnogdekiaaHkTQ
import Derived.Test.YtnififnogdekiaaIdMQ
import Derived.Test.YtnififnogdekiaaObLQ
import Derived.Test.YtnififnogdekiaaSfCQ
import Derived.Test.YtnififnogdekiaaGtSQ
import Derived.Test.YtnififnogdekiaaShPQ
import Derived.Test.YtnififnogdekiaaShQQ
import Derived.Test.YtnififnogdekiaaShRQ
import Derived.Test.YtnififnogdekiaaPuLQ
import Derived.Test.YtnififnogdekiaaPuSQ
import Derived.Test.YtnififnogdekiaaShLQ
import Derived.WalkKit
import Derived.ProofKit
import Derived.Below
import Derived.WalkSpells
import Derived.Deep.RegionWith
namespace Go.Proofs.Ytnififnogdekiaa
open Go.ChangeShapes Go.WideShapes Go.ChangeAt Go.RowKit

/-- What PutObject answers. -/
def poR (l : List Ob) (k : Int) (d : ByteArray) : Int := if sf l = 0 then (if idK k d = 0 then pC l k d else idK k d) else sf l
def poL (l : List Ob) (k : Int) (d : ByteArray) : List Ob := if sf l = 0 ∧ idK k d = 0 then pL l k d else []
def poS (l : List Ob) (k : Int) (d : ByteArray) : ByteArray := if sf l = 0 ∧ idK k d = 0 then pS l k d else ByteArray.empty
theorem po_f {l : List Ob} {k : Int} {d : ByteArray} (h : ¬ sf l = 0) : poR l k d = sf l ∧ poL l k d = [] ∧ poS l k d = ByteArray.empty := ⟨if_neg h, if_neg (fun q => h q.1), if_neg (fun q => h q.1)⟩
theorem po_k {l : List Ob} {k : Int} {d : ByteArray} (h : sf l = 0) (e : ¬ idK k d = 0) : poR l k d = idK k d ∧ poL l k d = [] ∧ poS l k d = ByteArray.empty :=
  ⟨by unfold poR; rw [if_pos h, if_neg e], if_neg (fun q => e q.2), if_neg (fun q => e q.2)⟩
theorem po_p {l : List Ob} {k : Int} {d : ByteArray} (h : sf l = 0) (e : idK k d = 0) : poR l k d = pC l k d ∧ poL l k d = pL l k d ∧ poS l k d = pS l k d :=
  ⟨by unfold poR; rw [if_pos h, if_pos e], if_pos ⟨h, e⟩, if_pos ⟨h, e⟩⟩
theorem p_none {l : List Ob} {k : Int} {d : ByteArray} (h : ¬ pC l k d = 0) : pL l k d = [] ∧ pS l k d = ByteArray.empty := ⟨if_neg h, if_neg h⟩
theorem idK_in {k : Int} {d : ByteArray} (h : idK k d = 0) : inB k 1 3 = true ∧ tf d = 0 := by
  unfold idK at h
  cases e : inB k 1 3 with
  | false => rw [e] at h; simp at h
  | true => rw [e] at h; exact ⟨rfl, h⟩
theorem idT_ok {k : Int} {d : ByteArray} (h : idK k d = 0) : idT k d = idN k d := by
  obtain ⟨h1, h2⟩ := idK_in h
  unfold idT
  rw [if_pos h1, if_pos h2]
/-- An answer that is a store. -/
def SP (r : Int) (s : ByteArray) (L : List Ob) (w : World) (e : Ending) (w' : World) : Prop := ∃ v, e = .returned (.agg #[.int .i64 r, .string s, v]) ∧ w'.ownsRow w.heap.size 31 3 v L.length (ocells L) ∧ Below w.heap.size w w'
theorem ownMonoO {w : World} {base b : Nat} {e : TypeId} {s : Nat} {v : Value} {n : Nat} {xs : List Value} (h : w.ownsRow base e s v n xs) (hb : b ≤ base) : w.ownsRow b e s v n xs := by
  obtain ⟨h1, h2⟩ := h
  refine ⟨h1, ?_⟩
  rcases h2 with h2 | ⟨g, c, cur, e1, e2, e3⟩
  · exact .inl h2
  · exact .inr ⟨g, c, cur, e1, by omega, e3⟩
theorem own3 {w : World} {base p : Nat} {e : TypeId} {s : Nat} {v : Value} {n : Nat} {xs : List Value} (h : w.ownsRow base e s v n xs) (hp : p < base) (a0 a1 a2 : Value) : (((w.setCell ⟨p, 0, none⟩ a0).setCell ⟨p, 1, none⟩ a1).setCell ⟨p, 2, none⟩ a2).ownsRow base e s v n xs :=
  ownsRow_setCell_below (ownsRow_setCell_below (ownsRow_setCell_below h (a := ⟨p, 0, none⟩) hp a0) (a := ⟨p, 1, none⟩) hp a1) (a := ⟨p, 2, none⟩) hp a2
theorem shapeO {w : World} {base : Nat} {e : TypeId} {s : Nat} {v : Value} {n : Nat} {xs : List Value} (h : w.ownsRow base e s v n xs) : ∃ a c, v = .slice a n c := by
  rcases h.2 with ⟨h', h0⟩ | ⟨g, c, cur, h', _⟩
  · exact ⟨none, 0, by rw [h', h0]⟩
  · exact ⟨_, _, h'⟩
theorem bneN {a b : Int} (h : ¬ a = b) : (a != b) = true := by simp [h]

set_option maxRecDepth 20000 in
set_option maxHeartbeats 2000000 in
theorem specPutObject (g off c : Nat) (l : List Ob) (k : Int) (d : ByteArray) (w : World) (h : OB w.heap.size w (some ⟨g, off, none⟩) l) (hc : l.length ≤ c) (hs : SmallO l) (hn : l.length ≤ 1048576) (hd : d.size ≤ 1048576) :
    Calls Try.prog 7 #[.slice (some ⟨g, off, none⟩) l.length c, .int .i64 k, .string d] w fun e w' => SP (poR l k d) (poS l k d) (poL l k d) w e w' := by
  have hA := fun w h => specStoreFault (some ⟨g, off, none⟩) c l w h hs hn
  have hI := fun w => specIdOf k d w hd
  have hFF : ¬ sf l = 0 → Hid (poR l k d = sf l ∧ poL l k d = [] ∧ poS l k d = ByteArray.empty) := fun e => po_f e
  have hKK : sf l = 0 → ¬ idK k d = 0 → Hid (poR l k d = idK k d ∧ poL l k d = [] ∧ poS l k d = ByteArray.empty) := fun e1 e2 => po_k e1 e2
  have hPP : sf l = 0 → idK k d = 0 → Hid (poR l k d = pC l k d ∧ poL l k d = pL l k d ∧ poS l k d = pS l k d) := fun e1 e2 => po_p e1 e2
  have hP := fun w h hk => l5Put g off c l k d w h hc hn hk hd
  have hNo : ¬ pC l k d = 0 → pL l k d = [] ∧ pS l k d = ByteArray.empty := fun e => p_none e
  obtain ⟨R, hR⟩ : ∃ R, poR l k d = R := ⟨_, rfl⟩
  obtain ⟨S, hS⟩ : ∃ S, poS l k d = S := ⟨_, rfl⟩
  obtain ⟨L, hL⟩ : ∃ L, poL l k d = L := ⟨_, rfl⟩
  rw [hR, hS, hL] at hFF hKK hPP ⊢
  clear hR hS hL
  obtain ⟨W1, hW1⟩ : ∃ W1, w.alloc (.cells #[.int .i64 0, .string ⟨#[]⟩, .slice none 0 0] 28) = W1 := ⟨_, rfl⟩
  have b1 : Below w.heap.size w W1 := by rw [← hW1]; exact allocBelow _ _
  have zW : w.heap.size < W1.heap.size := by rw [← hW1]; simp
  have r1 : Rf W1 w.heap.size [.int .i64 0, .string ⟨#[]⟩, .slice none 0 0] := by rw [← hW1]; exact Rf.new _ _ _
  have A1 := h.below b1
  go_enter Try.func7, Try.ntmps7
  go_wp2_with fail
  refine (hA _ (A1.mono (by omega))).mono ?_; rintro e w2 ⟨rfl, b2⟩
  have A2 := A1.below b2
  have r2 := r1.below zW b2
  have B2 := b1.trans (b2.mono b1.size)
  have z2 : w.heap.size < w2.heap.size := Nat.lt_of_lt_of_le zW b2.size
  clear A1 r1 b1 b2 hA hW1 h zW
  by_cases e0 : sf l = 0
  rotate_left
  · have hC := hFF e0
    have q0 : (sf l != 0) = true := ne_beq e0
    have d0 := r2.at_ 0 _ rfl
    have d1 := r2.at_ 1 _ rfl
    have d2 := r2.at_ 2 _ rfl
    have f0 := r2.fz 0
    have f1 := r2.fz 1
    have f2 := r2.fz 2
    have HB := fun a0 a1 a2 => below3 B2 (Nat.le_refl _) a0 a1 a2
    have HB' : ∀ a0 a1 a2, Hid (Below w.heap.size w (((w2.setCell ⟨w.heap.size, 0, none⟩ a0).setCell ⟨w.heap.size, 1, none⟩ a1).setCell ⟨w.heap.size, 2, none⟩ a2)) := fun a0 a1 a2 => HB a0 a1 a2
    clear hFF hKK hPP hI HB r2 B2 A2 hP
    go_wp2
    refine bodyPost_ret (v := .agg #[.int .i64 (sf l), .string ⟨#[]⟩, .slice none 0 0]) (by simp [results, Try.results7, go_sem, d0, d1, d2]) rfl ?_
    obtain ⟨rfl, rfl, rfl⟩ := hC.out
    exact ⟨_, rfl, nilRowO _ _, (HB' _ _ _).out⟩
  have q0 : (sf l != 0) = false := by rw [e0]; rfl
  replace hKK := hKK e0
  replace hPP := hPP e0
  clear hFF
  go_wp2_with fail
  refine (hI _).mono ?_; rintro e w3 ⟨rfl, b3⟩
  have A3 := A2.below b3
  have r3 := r2.below z2 b3
  have B3 := B2.trans (b3.mono B2.size)
  have z3 : w.heap.size < w3.heap.size := Nat.lt_of_lt_of_le z2 b3.size
  clear A2 r2 B2 b3 z2 hI
  obtain ⟨W4, hW4⟩ : ∃ W, w3.alloc (.cells #[.int .i64 0, .string ⟨#[]⟩] 59) = W := ⟨_, rfl⟩
  have b4 : Below w3.heap.size w3 W4 := by rw [← hW4]; exact allocBelow _ _
  have z4 : W4.heap.size = w3.heap.size + 1 := by rw [← hW4]; simp
  have t4 : Rf W4 w3.heap.size [.int .i64 0, .string ⟨#[]⟩] := by rw [← hW4]; exact Rf.new _ _ _
  have u0 := t4.at_ 0 _ rfl
  have u1 := t4.at_ 1 _ rfl
  have g0 := t4.fz 0
  have g1 := t4.fz 1
  have t5 := (t4.set (o := 0) (by simp) (.int .i64 (idK k d))).set (o := 1) (by simp) (.string (idT k d))
  have r5 := ((r3.below z3 b4).other (b' := w3.heap.size) (o := 0) (by omega) (.int .i64 (idK k d))).other (b' := w3.heap.size) (o := 1) (by omega) (.string (idT k d))
  have B5 := below_sets (B3.trans (b4.mono B3.size)) (show w.heap.size ≤ w3.heap.size by omega) (.int .i64 (idK k d)) (.string (idT k d))
  have A5 := (A3.below b4)
  have bS : Below w3.heap.size w3 ((W4.setCell ⟨w3.heap.size, 0, none⟩ (.int .i64 (idK k d))).setCell ⟨w3.heap.size, 1, none⟩ (.string (idT k d))) := below_sets b4 (Nat.le_refl _) _ _
  have A6 := A3.below bS
  have z5 : ((W4.setCell ⟨w3.heap.size, 0, none⟩ (.int .i64 (idK k d))).setCell ⟨w3.heap.size, 1, none⟩ (.string (idT k d))).heap.size = w3.heap.size + 1 := by simp [z4]
  obtain ⟨W5, hW5⟩ : ∃ W, (W4.setCell ⟨w3.heap.size, 0, none⟩ (.int .i64 (idK k d))).setCell ⟨w3.heap.size, 1, none⟩ (.string (idT k d)) = W := ⟨_, rfl⟩
  rw [hW5] at t5 r5 B5 A6 z5
  replace t5 : Rf W5 w3.heap.size [.int .i64 (idK k d), .string (idT k d)] := t5
  have k0 := t5.at_ 0 _ rfl
  have k1 := t5.at_ 1 _ rfl
  have z5l : w3.heap.size < W5.heap.size := by omega
  clear A5 bS t4 r3 B3 A3 b4 z4 z5
  by_cases eK : idK k d = 0
  rotate_left
  · have hC := hKK eK
    have qK : (idK k d != 0) = true := ne_beq eK
    have d0 := r5.at_ 0 _ rfl
    have d1 := r5.at_ 1 _ rfl
    have d2 := r5.at_ 2 _ rfl
    have f0 := r5.fz 0
    have f1 := r5.fz 1
    have f2 := r5.fz 2
    have HB := fun a0 a1 a2 => below3 B5 (Nat.le_refl _) a0 a1 a2
    have HB' : ∀ a0 a1 a2, Hid (Below w.heap.size w (((W5.setCell ⟨w.heap.size, 0, none⟩ a0).setCell ⟨w.heap.size, 1, none⟩ a1).setCell ⟨w.heap.size, 2, none⟩ a2)) := fun a0 a1 a2 => HB a0 a1 a2
    clear hKK hPP HB r5 B5 A6 t5 hP
    go_wp2
    refine bodyPost_ret (v := .agg #[.int .i64 (idK k d), .string ⟨#[]⟩, .slice none 0 0]) (by simp [results, Try.results7, go_sem, d0, d1, d2]) rfl ?_
    obtain ⟨rfl, rfl, rfl⟩ := hC.out
    exact ⟨_, rfl, nilRowO _ _, (HB' _ _ _).out⟩
  replace hPP := hPP eK
  have qK : (idK k d != 0) = false := by rw [eK]; rfl
  obtain ⟨hk, htf⟩ := idK_in eK
  have eT := idT_ok eK
  rw [eT] at k1 t5 hW5
  rw [eK] at k0 t5 hW5
  rw [eK, eT]
  clear hKK qK eK eT
  go_wp2_with fail
  refine (hP _ (A6.mono (by omega)) hk).mono ?_; rintro e w6 ⟨v6, rfl, _, o6, b6⟩
  have r6 := r5.below (by omega) b6
  have B6 := B5.trans (b6.mono B5.size)
  obtain ⟨va, vc, ev⟩ := shapeO o6
  have hW6 : ∀ j, v6.ownBlock = some j → W5.heap.size ≤ j := fun j hj => (o6.lt j hj).1
  obtain ⟨C, hCe⟩ : ∃ C, pC l k d = C := ⟨_, rfl⟩
  obtain ⟨P, hPe⟩ : ∃ P, pL l k d = P := ⟨_, rfl⟩
  obtain ⟨T, hTe⟩ : ∃ T, pS l k d = T := ⟨_, rfl⟩
  rw [hCe] at hNo hPP ⊢
  rw [hPe] at hNo hPP o6 ev
  rw [hTe] at hNo hPP ⊢
  have d0 := r6.at_ 0 _ rfl
  have d1 := r6.at_ 1 _ rfl
  have d2 := r6.at_ 2 _ rfl
  have f0 := r6.fz 0
  have f1 := r6.fz 1
  have f2 := r6.fz 2
  have HB' : ∀ a0 a1 a2, Hid (Below w.heap.size w (((w6.setCell ⟨w.heap.size, 0, none⟩ a0).setCell ⟨w.heap.size, 1, none⟩ a1).setCell ⟨w.heap.size, 2, none⟩ a2)) := fun a0 a1 a2 => below3 B6 (Nat.le_refl _) a0 a1 a2
  have HO : ∀ a0 a1 a2, Hid ((((w6.setCell ⟨w.heap.size, 0, none⟩ a0).setCell ⟨w.heap.size, 1, none⟩ a1).setCell ⟨w.heap.size, 2, none⟩ a2).ownsRow w.heap.size 31 3 v6 P.length (ocells P)) := fun a0 a1 a2 =>
    ownMonoO (own3 o6 (by omega) a0 a1 a2) (by omega)
  clear hP r5 B5 A6 t5 r6 B6 o6 hW6 b6 hCe hPe hTe
  subst ev
  by_cases eC : C = 0
  · subst eC
    clear hNo
    go_wp2
    refine bodyPost_ret (v := .agg #[.int .i64 0, .string T, .slice va P.length vc]) (by simp [results, Try.results7, go_sem, d0, d1, d2]) rfl ?_
    obtain ⟨rfl, rfl, rfl⟩ := hPP.out
    exact ⟨_, rfl, (HO _ _ _).out, (HB' _ _ _).out⟩
  · have qC : (C != 0) = true := ne_beq eC
    obtain ⟨n1, n2⟩ := hNo eC
    clear hNo HO
    go_wp2
    refine bodyPost_ret (v := .agg #[.int .i64 C, .string ⟨#[]⟩, .slice none 0 0]) (by simp [results, Try.results7, go_sem, d0, d1, d2]) rfl ?_
    obtain ⟨h1, h2, h3⟩ := hPP.out
    rw [h1, h2, h3, n1, n2]
    exact ⟨_, rfl, nilRowO _ _, (HB' _ _ _).out⟩

end Go.Proofs.Ytnififnogdekiaa
