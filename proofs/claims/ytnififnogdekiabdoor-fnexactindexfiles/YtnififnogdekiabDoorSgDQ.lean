/- The contracts of StageFiles. No statement is proved here. -/
import Derived.Test.YtnififnogdekiabDoorRows
import Derived.Test.YtnififnogdekiabDoorLemQ
import Derived.Test.YtnififnogdekiabDoorDTabQ
import Derived.Test.YtnififnogdekiabDoorInQ
import Derived.Test.YtnififnogdekiabDoorHkTQ
import Derived.Test.YtnififnogdekiabDoorFmCQ
import Derived.Test.YtnififnogdekiabDoorFlLQ
import Derived.Test.YtnififnogdekiabDoorEnLQ
import Derived.Test.YtnififnogdekiabDoorIxMQ
import Derived.Test.YtnififnogdekiabDoorIxIQ
import Derived.Test.YtnififnogdekiabDoorIxSQ
import Derived.Test.YtnififnogdekiabDoorSgCQ
import Derived.WalkKit
import Derived.ProofKit
import Derived.Below
import Derived.WalkSpells
import Derived.Deep.QuietTactic
import Derived.BigQuiet
import Derived.Deep.RegionWith
import Derived.Deep.RegionHeld
import Derived.Deep.CutRange
import Derived.Maps.AppendAt
import Derived.Laws.Cover1
namespace Go.Proofs.YtnififnogdekiabDoor.En
open Go.ChangeShapes Go.WideShapes Go.ChangeAt Go.RowKit

theorem stepApp {P : Program} {ops : Array Oper} {o : Oper} {a : Act} {w : World} {K : Act → World → Prop} {Q : Exit → Act → World → Prop} {E : Prop}
    (hg : o.guard = none) (s x : Operand) (t : TypeId) (hop : o.op = Op.call { callee := Callee.builtin Builtin.append, args := #[s, x], argTypes := #[t, t] })
    (base : Nat) (e : TypeId) (i : TypeInfo) (z : Value) (size bytes : Nat) (ht : P.underlying t = some (.slice e)) (hi : P.info? e = some i) (hz : i.zero = some z)
    (hsize : i.size = size) (hby : i.bytes = bytes) (hzs : z.cells.size = size) (hsz : 0 < size)
    (v : Value) (n : Nat) (xs : List Value) (hs : a.eval s = v) (hown : w.ownsRow base e size v n xs)
    (ad : Addr) (m c : Nat) (news : List Value) (hx : a.eval x = .slice (some ad) m c) (hl : news.length = m * size) (hnews : ∀ j u, news[j]? = some u → w.cell? (ad.add j) = some u) (h1 : ∀ u ∈ news, u.oneCell' = true)
    (h63 : n + m ≤ maxLen) (hbytes : (n + m) * bytes ≤ 140737488355328) (hbase : base ≤ w.heap.size)
    (hK : ∀ v' w', w'.ownsRow base e size v' (n + m) (xs ++ news) → w.grownBy w' v.ownBlock → (v'.ownBlock = v.ownBlock ∨ v'.ownBlock = some w.heap.size) → K (a.put o.dst v') w') :
    if Region.wanted o (yielded ops a.tmps) = true then Oper.wp P o a w K Q else E := by
  have hw : Region.wanted o (yielded ops a.tmps) = true := by simp [Region.wanted, hg]
  rw [if_pos hw]
  obtain ⟨v', w', hr, h2, h3, h4, h5⟩ := run_append_own_at (P := P) w base t o.type e i z size bytes ht hi hz hsize hby hzs hsz v n xs hown ad m c news hl hnews h1 h63 hbytes hbase
  unfold Oper.wp
  simp only [execOp, hop, resolve, invoke, builtin, Sem.run_bind, Sem.run_pure, Result.andThen_ok, List.map_toArray, List.map_cons, List.map_nil, hs, hx, hr]
  exact hK v' w' h2 h3 h5
theorem litF (w : World) : (w.alloc (.cells #[] 79)).ownsRow w.heap.size 79 3 (.slice (some ⟨w.heap.size, 0, none⟩) 0 0) ([] : List Fl.Ob).length (Fl.ocells []) := World.ownsRow_lit w #[] 0 (Nat.le_refl _) (Nat.zero_le _) rfl
set_option maxRecDepth 20000 in
set_option maxHeartbeats 4000000 in
theorem l10StageC (a : Option Addr) (c : Nat) (l : List Ob) (s : Int) (w : World) (h : OB w.heap.size w a l) (hn : l.length ≤ 1048576) :
    Calls Tryd.prog 49 #[.slice a l.length c, .int .i64 s] w fun e w' => SF (stg l s) w e w' := by
  go_enter Tryd.func49, Tryd.ntmps49
  go_wp2
  go_loopw [5, 6] (fun v i wr => ∃ k : Nat, k ≤ l.length ∧ i = .int .i64 k ∧ wr.ownsRow w.heap.size 79 3 v (stg (l.take k) s).length (Fl.ocells (stg (l.take k) s)) ∧ Below w.heap.size w wr) (fun _ i _ => l.length - (intOf i).toNat)
  case atStart => exact ⟨0, Nat.zero_le _, rfl, litF _, allocBelow _ _⟩
  case round =>
    obtain ⟨k, hk, rfl, hor, hbel⟩ := hrel
    have hsz := hbel.size
    by_cases hlt : k < l.length
    · have qk : (k : Int) < (l.length : Int) := by omega
      obtain ⟨g, off, e, hg, d0, d1, d2, d3⟩ := (h.below hbel) k hlt
      subst e
      have hy := stg_yes l s k hlt
      have hno := stg_no l s k hlt
      have hln := stg_take_len l s k
      obtain ⟨C, hCe⟩ : ∃ C, l.getD k onil = C := ⟨_, rfl⟩
      obtain ⟨x0, x1, x2, x3⟩ := C
      rw [hCe] at d0 d1 d2 d3 hy hno
      simp only [] at d0 d1 d2 d3 hy hno
      obtain ⟨T, hT⟩ : ∃ T, stg (l.take k) s = T := ⟨_, rfl⟩
      rw [hT] at hor hy hno hln
      clear hCe hT
      by_cases hx : x1 = s
      · subst hx
        have HY : Hid (stg (l.take (k + 1)) x1 = T ++ [fil (x0, x1, x2, x3)]) := hy rfl
        clear hy hno
        have qe : (x1 == x1) = true := by simp
        obtain ⟨i0, hi, hz0, hz1, hz2⟩ := info_parts Fl.infoObj
        have bN := allocBelow wr (.cells #[.string x0, .int .i64 x2, .string x3] 79)
        have o4 := hor.kept (grownOfBelow bN none) (blockCases _ _ fun b c1 c2 => by cases c2)
        have nw := newF wr (x0, x2, x3)
        have B4 := below_step hbel hsz bN
        have z4 := B4.size
        have B4D := B4.drew
        clear bN hor hbel
        go_wp2
        go_region_law (refine stepApp rfl (.tmp 21) (.tmp 38) 35 rfl w.heap.size 79 i0 _ 3 40 Tryd.underlying35 hi hz0 hz1 hz2 rfl (by decide) _ _ _ rfl o4.drew ⟨wr.heap.size, 0, none⟩ 1 1 (Fl.ocells [(x0, x2, x3)]) rfl rfl nw (oneF _) (by unfold maxLen; omega) (by omega) z4 ?_; intro v5 w5 o5 g5 n5)
        all_goals
        have B5 : Below w.heap.size w w5 := B4D.grown g5 z4 (fun j hj => (o4.lt j hj).1)
        have O5 : Hid (w5.ownsRow w.heap.size 79 3 v5 (T ++ [(x0, x2, x3)]).length (Fl.ocells (T ++ [(x0, x2, x3)]))) := by
          show World.ownsRow _ _ _ _ _ _ _
          rw [List.length_append, Fl.ocells_app]; exact o5
        clear o4 nw g5 n5 B4 o5 B4D
        go_wp2
        go_roundw
        case rel => exact ⟨k + 1, by omega, by go_num, by rw [HY.out]; exact O5.out, B5⟩
        case measure => first | (simp [intOf]; omega) | simp [intOf]
      · have HN : Hid (stg (l.take (k + 1)) s = T) := hno hx
        clear hy hno
        have qe : (x1 == s) = false := by simp [hx]
        have O1 : Hid (wr.ownsRow w.heap.size 79 3 _ T.length (Fl.ocells T)) := hor
        clear hor
        go_wp2
        go_roundw
        case rel => exact ⟨k + 1, by omega, by go_num, by rw [HN.out]; exact O1.out, hbel⟩
        case measure => first | (simp [intOf]; omega) | simp [intOf]
    · have qk : ¬ (k : Int) < (l.length : Int) := by omega
      have ek : l.take k = l := List.take_of_length_le (by omega)
      rw [ek] at hor
      have HO : Hid (World.ownsRow _ _ _ _ _ _ _) := hor
      clear hor ek
      go_wp2
      go_ret
      exact ⟨_, rfl, HO.out, hbel⟩
/-- An answer that is a list of files. -/
def FP (r : Int) (L : List Fl.Ob) (w : World) (e : Ending) (w' : World) : Prop := ∃ v, e = .returned (.agg #[.int .i64 r, v]) ∧ w'.ownsRow w.heap.size 79 3 v L.length (Fl.ocells L) ∧ Below w.heap.size w w'
theorem ownMonoF {w : World} {base b : Nat} {e : TypeId} {n : Nat} {v : Value} {m : Nat} {xs : List Value} (h : w.ownsRow base e n v m xs) (hb : b ≤ base) : w.ownsRow b e n v m xs := by
  refine ⟨h.1, ?_⟩
  rcases h.2 with q | ⟨g, cap, cur, h1, h2, h3⟩
  · exact .inl q
  · exact .inr ⟨g, cap, cur, h1, by omega, h3⟩
def sgR (l : List Ob) (s : Int) : Int := if ixf l = 0 then (if inB s 0 3 = true then 0 else 3) else ixf l
def sgL (l : List Ob) (s : Int) : List Fl.Ob := if sgR l s = 0 then stg l s else []
theorem shapeK3 {w : World} {base : Nat} {e : TypeId} {s : Nat} {v : Value} {n : Nat} {xs : List Value} (h : w.ownsRow base e s v n xs) : ∃ a c, v = .slice a n c := by
  rcases h.2 with ⟨h', h0'⟩ | ⟨g, c, cur, h', _⟩
  · exact ⟨none, 0, by rw [h', h0']⟩
  · exact ⟨_, _, h'⟩
set_option maxRecDepth 20000 in
set_option maxHeartbeats 4000000 in
theorem specStageFiles (a : Option Addr) (c : Nat) (l : List Ob) (s : Int) (w : World) (h : OB w.heap.size w a l) (hs : SmallO l) (hn : l.length ≤ 1048576) :
    Calls Tryd.prog 32 #[.slice a l.length c, .int .i64 s] w fun e w' => FP (sgR l s) (sgL l s) w e w' := by
  have hA := fun w h => specIndexFault a c l w h hs hn
  have hB := fun w h => l10StageC a c l s w h hn
  have hI := fun w => l1In s 0 3 w
  have hFF : ¬ ixf l = 0 → Hid (sgR l s = ixf l ∧ sgL l s = []) := fun e => by
    have e1 : sgR l s = ixf l := if_neg e
    exact ⟨e1, if_neg (by rw [e1]; exact e)⟩
  have hRR : ixf l = 0 → inB s 0 3 = false → Hid (sgR l s = 3 ∧ sgL l s = []) := fun e k => by
    have e1 : sgR l s = 3 := by unfold sgR; rw [if_pos e, if_neg (by rw [k]; decide)]
    exact ⟨e1, if_neg (by rw [e1]; decide)⟩
  have hOK : ixf l = 0 → inB s 0 3 = true → Hid (sgR l s = 0 ∧ sgL l s = stg l s) := fun e k => by
    have e1 : sgR l s = 0 := by unfold sgR; rw [if_pos e, if_pos k]
    exact ⟨e1, if_pos e1⟩
  obtain ⟨R, hR⟩ : ∃ R, sgR l s = R := ⟨_, rfl⟩
  obtain ⟨L, hL⟩ : ∃ L, sgL l s = L := ⟨_, rfl⟩
  rw [hR, hL] at hFF hRR hOK ⊢
  obtain ⟨F, hF⟩ : ∃ F, ixf l = F := ⟨_, rfl⟩
  rw [hF] at hA hFF hRR hOK
  clear hF hR hL
  obtain ⟨W1, hW1⟩ : ∃ W1, w.alloc (.cells #[.int .i64 0, .slice none 0 0] 37) = W1 := ⟨_, rfl⟩
  have b1 : Below w.heap.size w W1 := by rw [← hW1]; exact allocBelow _ _
  have zW : w.heap.size < W1.heap.size := by rw [← hW1]; simp
  have r1 : Res2 W1 w.heap.size (.int .i64 0) (.slice none 0 0) := by rw [← hW1]; exact Res2.new _ _ _ _
  have A1 := h.below b1
  go_enter Tryd.func32, Tryd.ntmps32
  go_wp2_with fail
  refine (hA _ (A1.mono (by omega))).mono ?_; rintro e w2 ⟨rfl, b2⟩
  have A2 := A1.below b2
  have r2 := r1.below zW b2
  have B2 := b1.trans (b2.mono b1.size)
  have z2 : w.heap.size < w2.heap.size := Nat.lt_of_lt_of_le zW b2.size
  clear A1 r1 b1 b2 hA hW1 h zW
  by_cases e0 : F = 0
  · replace hRR := hRR e0
    replace hOK := hOK e0
    subst e0
    clear hFF
    cases hin : inB s 0 3 with
    | false =>
      have hC := hRR hin
      rw [hin] at hI
      have d0 := r2.c0
      have d1 := r2.c1
      have f0 := r2.f0
      have f1 := r2.f1
      have HB : Hid (Below w.heap.size w ((w2.setCell ⟨w.heap.size, 0, none⟩ (.int .i64 3)).setCell ⟨w.heap.size, 1, none⟩ (.slice none 0 0))) := below_sets B2 (Nat.le_refl _) _ _
      clear r2 B2 A2 hRR hOK hin
      go_wp2_with fail
      refine (hI _).mono ?_; rintro e w2 ⟨rfl, rfl⟩
      go_wp2
      refine bodyPost_ret (v := .agg #[.int .i64 3, .slice none 0 0]) (by simp [results, Tryd.results32, go_sem, d0, d1]) rfl ?_
      exact ⟨_, ret_agg2 (by rw [hC.out.1]) rfl, by rw [hC.out.2]; exact nilF _ _, HB.out⟩
    | true =>
      have hC := hOK hin
      rw [hin] at hI
      clear hin hRR hOK
      go_wp2_with fail
      refine (hI _).mono ?_; rintro e w2 ⟨rfl, rfl⟩
      clear hI
      go_wp2_with fail
      refine (hB _ (A2.mono (by omega))).mono ?_; rintro e w3 ⟨v3, rfl, o3, b3⟩
      have r3 := r2.below z2 b3
      have B3 := B2.trans (b3.mono (by omega))
      obtain ⟨va, vc, ev⟩ := shapeK3 o3
      subst ev
      have d0 := r3.c0
      have d1 := r3.c1
      have f0 := r3.f0
      have f1 := r3.f1
      have o4 : (w3.setCell ⟨w.heap.size, 0, none⟩ (.int .i64 0)).setCell ⟨w.heap.size, 1, none⟩ (.slice va (stg l s).length vc) |>.ownsRow w.heap.size 79 3 (.slice va (stg l s).length vc) (stg l s).length (Fl.ocells (stg l s)) := (ownMonoF o3 (by omega)).kept (grownTrans (grownSet _ _ _ _) (grownSet _ _ _ _)) (blockCases _ _ fun b c1 c2 => by cases c2; have := (o3.lt _ c1).1; omega)
      have HO : Hid (World.ownsRow _ _ _ _ _ _ _) := o4
      have HB : Hid (Below w.heap.size w ((w3.setCell ⟨w.heap.size, 0, none⟩ (.int .i64 0)).setCell ⟨w.heap.size, 1, none⟩ (.slice va (stg l s).length vc))) := below_sets B3 (Nat.le_refl _) _ _
      clear r3 r2 B2 B3 A2 o3 o4 b3
      obtain ⟨n, hnn⟩ : ∃ n, (stg l s).length = n := ⟨_, rfl⟩
      rw [hnn] at HO HB ⊢
      go_wp2
      refine bodyPost_ret (v := .agg #[.int .i64 0, .slice va n vc]) (by simp [results, Tryd.results32, go_sem, d0, d1]) rfl ?_
      exact ⟨_, ret_agg2 (by rw [hC.out.1]) rfl, by rw [hC.out.2, hnn]; exact HO.out, HB.out⟩
  · have hC := hFF e0
    have qn : (F != 0) = true := ne_beq e0
    have d0 := r2.c0
    have d1 := r2.c1
    have f0 := r2.f0
    have f1 := r2.f1
    have HB : Hid (Below w.heap.size w ((w2.setCell ⟨w.heap.size, 0, none⟩ (.int .i64 F)).setCell ⟨w.heap.size, 1, none⟩ (.slice none 0 0))) := below_sets B2 (Nat.le_refl _) _ _
    clear r2 B2 A2 hRR hOK hFF e0 hI hB
    go_wp2
    refine bodyPost_ret (v := .agg #[.int .i64 F, .slice none 0 0]) (by simp [results, Tryd.results32, go_sem, d0, d1]) rfl ?_
    exact ⟨_, ret_agg2 (by rw [hC.out.1]) rfl, by rw [hC.out.2]; exact nilF _ _, HB.out⟩
set_option maxRecDepth 20000 in
set_option maxHeartbeats 4000000 in
theorem implStageFiles (a : Option Addr) (c : Nat) (l : List Ob) (s : Int) (w : World) (h : OB w.heap.size w a l) (hs : SmallO l) (hn : l.length ≤ 1048576) :
    Calls Tryd.prog 33 #[.slice a l.length c, .int .i64 s] w fun e w' => FP (sgR l s) (sgL l s) w e w' := by
  have hA := fun w h => implIndexFault a c l w h hs hn
  have hB := fun w h => filesAtStageC a c l s w h hs hn
  have hI := fun w => isStageC s w
  have hFF : ¬ ixf l = 0 → Hid (sgR l s = ixf l ∧ sgL l s = []) := fun e => by
    have e1 : sgR l s = ixf l := if_neg e
    exact ⟨e1, if_neg (by rw [e1]; exact e)⟩
  have hRR : ixf l = 0 → inB s 0 3 = false → Hid (sgR l s = 3 ∧ sgL l s = []) := fun e k => by
    have e1 : sgR l s = 3 := by unfold sgR; rw [if_pos e, if_neg (by rw [k]; decide)]
    exact ⟨e1, if_neg (by rw [e1]; decide)⟩
  have hOK : ixf l = 0 → inB s 0 3 = true → Hid (sgR l s = 0 ∧ sgL l s = stg l s) := fun e k => by
    have e1 : sgR l s = 0 := by unfold sgR; rw [if_pos e, if_pos k]
    exact ⟨e1, if_pos e1⟩
  obtain ⟨R, hR⟩ : ∃ R, sgR l s = R := ⟨_, rfl⟩
  obtain ⟨L, hL⟩ : ∃ L, sgL l s = L := ⟨_, rfl⟩
  rw [hR, hL] at hFF hRR hOK ⊢
  obtain ⟨F, hF⟩ : ∃ F, ixf l = F := ⟨_, rfl⟩
  rw [hF] at hA hFF hRR hOK
  clear hF hR hL
  obtain ⟨W1, hW1⟩ : ∃ W1, w.alloc (.cells #[.int .i64 0, .slice none 0 0] 37) = W1 := ⟨_, rfl⟩
  have b1 : Below w.heap.size w W1 := by rw [← hW1]; exact allocBelow _ _
  have zW : w.heap.size < W1.heap.size := by rw [← hW1]; simp
  have r1 : Res2 W1 w.heap.size (.int .i64 0) (.slice none 0 0) := by rw [← hW1]; exact Res2.new _ _ _ _
  have A1 := h.below b1
  go_enter Tryd.func33, Tryd.ntmps33
  go_wp2_with fail
  refine (hA _ (A1.mono (by omega))).mono ?_; rintro e w2 ⟨rfl, b2⟩
  have A2 := A1.below b2
  have r2 := r1.below zW b2
  have B2 := b1.trans (b2.mono b1.size)
  have z2 : w.heap.size < w2.heap.size := Nat.lt_of_lt_of_le zW b2.size
  clear A1 r1 b1 b2 hA hW1 h zW
  by_cases e0 : F = 0
  · replace hRR := hRR e0
    replace hOK := hOK e0
    subst e0
    clear hFF
    cases hin : inB s 0 3 with
    | false =>
      have hC := hRR hin
      rw [hin] at hI
      have d0 := r2.c0
      have d1 := r2.c1
      have f0 := r2.f0
      have f1 := r2.f1
      have HB : Hid (Below w.heap.size w ((w2.setCell ⟨w.heap.size, 0, none⟩ (.int .i64 3)).setCell ⟨w.heap.size, 1, none⟩ (.slice none 0 0))) := below_sets B2 (Nat.le_refl _) _ _
      clear r2 B2 A2 hRR hOK hin
      go_wp2_with fail
      refine (hI _).mono ?_; rintro e w2 ⟨rfl, rfl⟩
      go_wp2
      refine bodyPost_ret (v := .agg #[.int .i64 3, .slice none 0 0]) (by simp [results, Tryd.results33, go_sem, d0, d1]) rfl ?_
      exact ⟨_, ret_agg2 (by rw [hC.out.1]) rfl, by rw [hC.out.2]; exact nilF _ _, HB.out⟩
    | true =>
      have hC := hOK hin
      rw [hin] at hI
      clear hin hRR hOK
      go_wp2_with fail
      refine (hI _).mono ?_; rintro e w2 ⟨rfl, rfl⟩
      clear hI
      go_wp2_with fail
      refine (hB _ (A2.mono (by omega))).mono ?_; rintro e w3 ⟨v3, rfl, o3, b3⟩
      have r3 := r2.below z2 b3
      have B3 := B2.trans (b3.mono (by omega))
      obtain ⟨va, vc, ev⟩ := shapeK3 o3
      subst ev
      have d0 := r3.c0
      have d1 := r3.c1
      have f0 := r3.f0
      have f1 := r3.f1
      have o4 : (w3.setCell ⟨w.heap.size, 0, none⟩ (.int .i64 0)).setCell ⟨w.heap.size, 1, none⟩ (.slice va (stg l s).length vc) |>.ownsRow w.heap.size 79 3 (.slice va (stg l s).length vc) (stg l s).length (Fl.ocells (stg l s)) := (ownMonoF o3 (by omega)).kept (grownTrans (grownSet _ _ _ _) (grownSet _ _ _ _)) (blockCases _ _ fun b c1 c2 => by cases c2; have := (o3.lt _ c1).1; omega)
      have HO : Hid (World.ownsRow _ _ _ _ _ _ _) := o4
      have HB : Hid (Below w.heap.size w ((w3.setCell ⟨w.heap.size, 0, none⟩ (.int .i64 0)).setCell ⟨w.heap.size, 1, none⟩ (.slice va (stg l s).length vc))) := below_sets B3 (Nat.le_refl _) _ _
      clear r3 r2 B2 B3 A2 o3 o4 b3
      obtain ⟨n, hnn⟩ : ∃ n, (stg l s).length = n := ⟨_, rfl⟩
      rw [hnn] at HO HB ⊢
      go_wp2
      refine bodyPost_ret (v := .agg #[.int .i64 0, .slice va n vc]) (by simp [results, Tryd.results33, go_sem, d0, d1]) rfl ?_
      exact ⟨_, ret_agg2 (by rw [hC.out.1]) rfl, by rw [hC.out.2, hnn]; exact HO.out, HB.out⟩
  · have hC := hFF e0
    have qn : (F != 0) = true := ne_beq e0
    have d0 := r2.c0
    have d1 := r2.c1
    have f0 := r2.f0
    have f1 := r2.f1
    have HB : Hid (Below w.heap.size w ((w2.setCell ⟨w.heap.size, 0, none⟩ (.int .i64 F)).setCell ⟨w.heap.size, 1, none⟩ (.slice none 0 0))) := below_sets B2 (Nat.le_refl _) _ _
    clear r2 B2 A2 hRR hOK hFF e0 hI hB
    go_wp2
    refine bodyPost_ret (v := .agg #[.int .i64 F, .slice none 0 0]) (by simp [results, Tryd.results33, go_sem, d0, d1]) rfl ?_
    exact ⟨_, ret_agg2 (by rw [hC.out.1]) rfl, by rw [hC.out.2]; exact nilF _ _, HB.out⟩
end Go.Proofs.YtnififnogdekiabDoor.En
