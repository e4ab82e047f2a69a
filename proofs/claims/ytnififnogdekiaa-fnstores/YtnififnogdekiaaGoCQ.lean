/- The contract of the program's GetObject. No statement is proved here. -/
import Derived.Test.YtnififnogdekiaaRows
import Derived.Test.YtnififnogdekiaaShQQ
import Derived.WalkKit
import Derived.ProofKit
import Derived.Below
import Derived.WalkSpells
import Derived.Laws.Cover1
import Derived.Deep.RegionWith
import Derived.Deep.RegionHeld
import Derived.Deep.CutRange
namespace Go.Proofs.Ytnififnogdekiaa
open Go.ChangeShapes Go.WideShapes Go.ChangeAt Go.RowKit

def fo (l : List Ob) (kd : Int) (id : ByteArray) : Ob := match gt l kd id with
  | some D => (id, kd, D)
  | none => onil
theorem findC (p b : Nat) (l : List Ob) (x : Value) (kd : Int) (id : ByteArray) (w : World) (hf : sf l = 0) (hR : Rf w p [.map (some b), x]) (hp : p < w.heap.size) (hS : Sh w b l) :
    Calls Try.prog 29 #[.pointer (some ⟨p, 0, none⟩), .int .i64 kd, .string id] w fun e w' => e = .returned (.tuple #[.agg #[.string (fo l kd id).1, .int .i64 (fo l kd id).2.1, .string (fo l kd id).2.2], .bool (gt l kd id).isSome]) ∧ Below w.heap.size w w' := by
  cases hid : idB id.data.toList with
  | false =>
    have hg := gt_noid (k := kd) hf hid
    unfold fo
    rw [hg]
    exact findNo p kd id w hid
  | true =>
    rcases fz_cases l id with e | ⟨k, e, hk, e2⟩
    · have hg := gt_less (k := kd) e
      unfold fo
      rw [hg]
      exact findId p b l x ⟨#[]⟩ ⟨#[]⟩ 0 false false ⟨#[]⟩ ⟨#[]⟩ 0 kd id w hid hR hp hS (fun w h => h.miss (idB_size hid) (fz_out e)) (fun h => by cases h) (fun _ => ⟨rfl, rfl, rfl, rfl⟩)
    · obtain ⟨o, ho⟩ : ∃ o, l.getD k onil = o := ⟨_, rfl⟩
      have hm := ob_mem l k hk
      have hy := fun h => gt_yes (l := l) (k := kd) e h
      have hn := fun h => gt_no (l := l) (k := kd) e h
      rw [ho] at e2 hm hy hn
      have hlk : ∀ w, Sh w b l → (Instr.lookup 76 (.map (some b)) (kv id) true).run Try.prog w = .ok (.tuple #[.agg #[.string o.1, .int .i64 o.2.1, .string o.2.2], .bool true]) w := fun w h => by
        have := h.hit hm
        rw [e2] at this
        rw [this]; unfold obV; rw [e2]
      by_cases hkd : o.2.1 = kd
      · unfold fo
        rw [hy hkd]
        exact findId p b l x o.1 o.2.2 o.2.1 true true id o.2.2 kd kd id w hid hR hp hS hlk (fun _ _ => ⟨rfl, e2.symm, hkd.symm, rfl⟩) (fun h => by rcases h with h | h; cases h; exact absurd hkd h)
      · unfold fo
        rw [hn hkd]
        exact findId p b l x o.1 o.2.2 o.2.1 true false ⟨#[]⟩ ⟨#[]⟩ 0 kd id w hid hR hp hS hlk (fun _ h => absurd h hkd) (fun _ => ⟨rfl, rfl, rfl, rfl⟩)
set_option maxRecDepth 20000 in
set_option maxHeartbeats 2000000 in
theorem implGetObject (a : Option Addr) (c : Nat) (l : List Ob) (kd : Int) (id : ByteArray) (w : World) (h : OB w.heap.size w a l) (hs : SmallO l) (hn : l.length ≤ 1048576) :
    Calls Try.prog 8 #[.slice a l.length c, .int .i64 kd, .string id] w fun e w' => OP (goR l kd id) (goO l kd id) w e w' := by
  have hA := fun w h => implStoreFault a c l w h hs hn
  have hFF : ¬ sf l = 0 → Hid (goR l kd id = sf l ∧ goO l kd id = onil) := fun e => by
    have e1 : goR l kd id = sf l := if_neg e
    exact ⟨e1, if_neg (by rw [e1]; exact e)⟩
  have hRR : sf l = 0 → inB kd 1 3 = false → Hid (goR l kd id = 3 ∧ goO l kd id = onil) := fun e k => by
    have e1 : goR l kd id = 3 := by unfold goR; rw [if_pos e, if_neg (by rw [k]; decide)]
    exact ⟨e1, if_neg (by rw [e1]; decide)⟩
  have hNN : sf l = 0 → inB kd 1 3 = true → gt l kd id = none → Hid (goR l kd id = 4 ∧ goO l kd id = onil) := fun e k g => by
    have e1 : goR l kd id = 4 := by unfold goR; rw [if_pos e, if_pos k, g]; rfl
    exact ⟨e1, if_neg (by rw [e1]; decide)⟩
  have hOK : sf l = 0 → inB kd 1 3 = true → ∀ D, gt l kd id = some D → Hid (goR l kd id = 0 ∧ goO l kd id = (id, kd, D)) := fun e k D g => by
    have e1 : goR l kd id = 0 := by unfold goR; rw [if_pos e, if_pos k, g]; rfl
    exact ⟨e1, by unfold goO; rw [if_pos e1, g]; rfl⟩
  have hSm : ∀ D, gt l kd id = some D → id.size ≤ 1048576 ∧ D.size ≤ 1048576 := fun D g => by
    rcases fz_cases l id with e | ⟨k, e, hk, e2⟩
    · rw [gt_less e] at g; cases g
    · by_cases hkd : (l.getD k onil).2.1 = kd
      · rw [gt_yes e hkd] at g
        have := hs _ (ob_mem l k hk)
        cases g
        rw [← e2]; exact this
      · rw [gt_no e hkd] at g; cases g
  have hSh := fun w h (hf : sf l = 0) => shelfOfC a c l w h hf
  have hFi := fun p b x w (hf : sf l = 0) => findC p b l x kd id w hf
  have hfo : ∀ D, gt l kd id = some D → fo l kd id = (id, kd, D) := fun D g => by unfold fo; rw [g]
  obtain ⟨R, hR⟩ : ∃ R, goR l kd id = R := ⟨_, rfl⟩
  obtain ⟨L, hL⟩ : ∃ L, goO l kd id = L := ⟨_, rfl⟩
  rw [hR, hL] at hFF hRR hNN hOK ⊢
  obtain ⟨V, hV⟩ : ∃ V, fo l kd id = V := ⟨_, rfl⟩
  rw [hV] at hFi hfo
  obtain ⟨G, hGe⟩ : ∃ G, gt l kd id = G := ⟨_, rfl⟩
  rw [hGe] at hFi hNN hOK hfo hSm
  obtain ⟨v0, v1, v2⟩ := V
  clear hR hL hGe hV
  obtain ⟨W1, hW1⟩ : ∃ W1, w.alloc (.cells #[.int .i64 0, .string ⟨#[]⟩, .int .i64 0, .string ⟨#[]⟩] 33) = W1 := ⟨_, rfl⟩
  have b1 : Below w.heap.size w W1 := by rw [← hW1]; exact allocBelow _ _
  have zW : w.heap.size < W1.heap.size := by rw [← hW1]; simp
  have r1 : Rf W1 w.heap.size [.int .i64 0, .string ⟨#[]⟩, .int .i64 0, .string ⟨#[]⟩] := by rw [← hW1]; exact Rf.new _ _ _
  have A1 := h.below b1
  go_enter Try.func8, Try.ntmps8
  go_wp2_with fail
  refine (hA _ (A1.mono (by omega))).mono ?_; rintro e w2 ⟨rfl, b2⟩
  have A2 := A1.below b2
  have r2 := r1.below zW b2
  have B2 := b1.trans (b2.mono b1.size)
  have z2 : w.heap.size < w2.heap.size := Nat.lt_of_lt_of_le zW b2.size
  have d0 := r2.at_ 0 _ rfl
  have d1 := r2.at_ 1 _ rfl
  have d2 := r2.at_ 2 _ rfl
  have d3 := r2.at_ 3 _ rfl
  have f0 := r2.fz 0
  have f1 := r2.fz 1
  have f2 := r2.fz 2
  have f3 := r2.fz 3
  clear A1 r1 b1 b2 hA hW1 h zW
  have HB : ∀ v0 v1 v2 v3, Hid (Below w.heap.size w ((((w2.setCell ⟨w.heap.size, 0, none⟩ v0).setCell ⟨w.heap.size, 1, none⟩ v1).setCell ⟨w.heap.size, 2, none⟩ v2).setCell ⟨w.heap.size, 3, none⟩ v3)) := fun v0 v1 v2 v3 => below_sets4 B2 (Nat.le_refl _) _ _ _ _
  by_cases e0 : sf l = 0
  · replace hRR := hRR e0
    replace hNN := hNN e0
    replace hOK := hOK e0
    have hSh := fun w h => hSh w h e0
    have hFi := fun p b x w => hFi p b x w e0
    rw [e0]
    clear hFF
    have hI := fun w => isKind kd w
    cases hin : inB kd 1 3 with
    | false =>
      have hC := hRR hin
      rw [hin] at hI
      clear hRR hNN hOK hin hSh hFi
      go_wp2_with fail
      refine (hI _).mono ?_; rintro e w2 ⟨rfl, rfl⟩
      go_wp2
      refine bodyPost_ret (v := .agg #[.int .i64 3, .string ⟨#[]⟩, .int .i64 0, .string ⟨#[]⟩]) (by simp [results, Try.results8, go_sem, d0, d1, d2, d3]) rfl ?_
      exact ⟨ret_obj (o := onil) hC.out.1.symm hC.out.2.symm, (HB _ _ _ _).out⟩
    | true =>
      replace hNN := hNN hin
      replace hOK := hOK hin
      rw [hin] at hI
      clear hRR hin HB
      go_wp2_with fail
      refine (hI _).mono ?_; rintro e w2 ⟨rfl, rfl⟩
      clear hI
      go_wp2_with fail
      refine (hSh _ (A2.mono (by omega))).mono ?_; rintro e w3 ⟨rfl, sR, sS, b3, z3⟩
      have r3 := r2.below z2 b3
      have B3 := B2.trans (b3.mono (by omega))
      have y3 := b3.size
      clear hSh A2 r2 B2 d0 d1 d2 d3 f0 f1 f2 f3
      go_wp2_with fail
      refine (hFi _ _ _ _ sR z3 sS).mono ?_; rintro e w4 ⟨rfl, b4⟩
      have r4 := r3.below (by omega) b4
      have B4 := B3.trans (b4.mono (by omega))
      have y4 := b4.size
      clear hFi sR sS b3 b4 r3 B3
      obtain ⟨W5, hW5⟩ : ∃ W, w4.alloc (.cells #[.string v0, .int .i64 v1, .string v2] 31) = W := ⟨_, rfl⟩
      have b5 : Below w4.heap.size w4 W5 := by rw [← hW5]; exact allocBelow _ _
      have z5 : W5.heap.size = w4.heap.size + 1 := by rw [← hW5]; simp
      have o5 : Rf W5 w4.heap.size [.string v0, .int .i64 v1, .string v2] := by rw [← hW5]; exact Rf.new _ _ _
      have r5 := r4.below (by omega) b5
      have B5 := B4.trans (b5.mono (by omega))
      have k0 := o5.at_ 0 _ rfl
      have k1 := o5.at_ 1 _ rfl
      have k2 := o5.at_ 2 _ rfl
      clear r4 B4 b5 o5
      cases G with
      | none =>
        have hC := hNN rfl
        have d0 := r5.at_ 0 _ rfl
        have d1 := r5.at_ 1 _ rfl
        have d2 := r5.at_ 2 _ rfl
        have d3 := r5.at_ 3 _ rfl
        have f0 := r5.fz 0
        have f1 := r5.fz 1
        have f2 := r5.fz 2
        have f3 := r5.fz 3
        have HB : ∀ v0 v1 v2 v3, Hid (Below w.heap.size w ((((W5.setCell ⟨w.heap.size, 0, none⟩ v0).setCell ⟨w.heap.size, 1, none⟩ v1).setCell ⟨w.heap.size, 2, none⟩ v2).setCell ⟨w.heap.size, 3, none⟩ v3)) := fun v0 v1 v2 v3 => below_sets4 B5 (Nat.le_refl _) _ _ _ _
        clear hNN hOK hfo hSm r5 B5
        go_wp2
        refine bodyPost_ret (v := .agg #[.int .i64 4, .string ⟨#[]⟩, .int .i64 0, .string ⟨#[]⟩]) (by simp [results, Try.results8, go_sem, d0, d1, d2, d3]) rfl ?_
        exact ⟨ret_obj (o := onil) hC.out.1.symm hC.out.2.symm, (HB _ _ _ _).out⟩
      | some D =>
        have hC := hOK D rfl
        have hf := hfo D rfl
        have hsm := hSm D rfl
        simp only [Prod.mk.injEq] at hf
        obtain ⟨rfl, rfl, rfl⟩ := hf
        have hCl := fun w => cloneObjectC v0 v2 v1 w hsm.1 hsm.2
        clear hNN hOK hfo hSm
        go_wp2_with fail
        refine (hCl _).mono ?_; rintro e w6 ⟨rfl, b6⟩
        have r6 := r5.below (by omega) b6
        have B6 := B5.trans (b6.mono (by omega))
        have d0 := r6.at_ 0 _ rfl
        have d1 := r6.at_ 1 _ rfl
        have d2 := r6.at_ 2 _ rfl
        have d3 := r6.at_ 3 _ rfl
        have f0 := r6.fz 0
        have f1 := r6.fz 1
        have f2 := r6.fz 2
        have f3 := r6.fz 3
        have HB : ∀ v0 v1 v2 v3, Hid (Below w.heap.size w ((((w6.setCell ⟨w.heap.size, 0, none⟩ v0).setCell ⟨w.heap.size, 1, none⟩ v1).setCell ⟨w.heap.size, 2, none⟩ v2).setCell ⟨w.heap.size, 3, none⟩ v3)) := fun v0 v1 v2 v3 => below_sets4 B6 (Nat.le_refl _) _ _ _ _
        clear r5 B5 r6 B6 hCl k0 k1 k2 b6
        go_wp2
        refine bodyPost_ret (v := .agg #[.int .i64 0, .string v0, .int .i64 v1, .string v2]) (by simp [results, Try.results8, go_sem, d0, d1, d2, d3]) rfl ?_
        exact ⟨ret_obj (o := (v0, v1, v2)) hC.out.1.symm hC.out.2.symm, (HB _ _ _ _).out⟩
  · have hC := hFF e0
    have q0 : (sf l != 0) = true := ne_beq e0
    clear hRR hNN hOK hFF hSh hFi
    go_wp2
    refine bodyPost_ret (v := .agg #[.int .i64 (sf l), .string ⟨#[]⟩, .int .i64 0, .string ⟨#[]⟩]) (by simp [results, Try.results8, go_sem, d0, d1, d2, d3]) rfl ?_
    exact ⟨ret_obj (o := onil) hC.out.1.symm hC.out.2.symm, (HB _ _ _ _).out⟩
end Go.Proofs.Ytnififnogdekiaa
