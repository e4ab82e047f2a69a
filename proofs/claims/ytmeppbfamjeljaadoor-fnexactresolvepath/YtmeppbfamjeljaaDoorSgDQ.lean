/- The contracts of StageFiles. No statement is proved here. -/
import Derived.Test.YtmeppbfamjeljaaDoorRows
import Derived.Test.YtmeppbfamjeljaaDoorLemQ
import Derived.Test.YtmeppbfamjeljaaDoorDTabQ
import Derived.Test.YtmeppbfamjeljaaDoorHkTQ
import Derived.Test.YtmeppbfamjeljaaDoorFmCQ
import Derived.Test.YtmeppbfamjeljaaDoorFlLQ
import Derived.Test.YtmeppbfamjeljaaDoorEnLQ
import Derived.Test.YtmeppbfamjeljaaDoorIxMQ
import Derived.Test.YtmeppbfamjeljaaDoorIxIQ
import Derived.Test.YtmeppbfamjeljaaDoorIxSQ
import Derived.Test.YtmeppbfamjeljaaDoorSgCQ
import Derived.WalkKit
import Derived.ProofKit
import Derived.Below
import Derived.WalkSpells
import Derived.Deep.QuietTactic
import Derived.BigQuiet
import Derived.Deep.RegionWith
import Derived.Deep.RegionHeld
import Derived.Deep.CutRange
import Derived.Maps.AppendAt
import Derived.Laws.Cover1
namespace Go.Proofs.YtmeppbfamjeljaaDoor.En
open Go.ChangeShapes Go.WideShapes Go.ChangeAt Go.RowKit

theorem stepApp {P : Program} {ops : Array Oper} {o : Oper} {a : Act} {w : World} {K : Act → World → Prop} {Q : Exit → Act → World → Prop} {E : Prop}
    (hg : o.guard = none) (s x : Operand) (t : TypeId) (hop : o.op = Op.call { callee := Callee.builtin Builtin.append, args := #[s, x], argTypes := #[t, t] })
    (base : Nat) (e : TypeId) (i : TypeInfo) (z : Value) (size bytes : Nat) (ht : P.underlying t = some (.slice e)) (hi : P.info? e = some i) (hz : i.zero = some z)
    (hsize : i.size = size) (hby : i.bytes = bytes) (hzs : z.cells.size = size) (hsz : 0 < size)
    (v : Value) (n : Nat) (xs : List Value) (hs : a.eval s = v) (hown : w.ownsRow base e size v n xs)
    (ad : Addr) (m c : Nat) (news : List Value) (hx : a.eval x = .slice (some ad) m c) (hl : news.length = m * size) (hnews : ∀ j u, news[j]? = some u → w.cell? (ad.add j) = some u) (h1 : ∀ u ∈ news, u.oneCell' = true)
    (h63 : n + m ≤ maxLen) (hbytes : (n + m) * bytes ≤ 140737488355328) (hbase : base ≤ w.heap.size)
    (hK : ∀ v' w', w'.ownsRow base e size v' (n + m) (xs ++ news) → w.grownBy w' v.ownBlock → (v'.ownBlock = v.ownBlock ∨ v'.ownBlock = some w.heap.size) → K (a.put o.dst v') w') :
    if Region.wanted o (yielded ops a.tmps) = true then Oper.wp P o a w K Q else E := by
  have hw : Region.wanted o (yielded ops a.tmps) = true := by simp [Region.wanted, hg]
  rw [if_pos hw]
  obtain ⟨v', w', hr, h2, h3, h4, h5⟩ := run_append_own_at (P := P) w base t o.type e i z size bytes ht hi hz hsize hby hzs hsz v n xs hown ad m c news hl hnews h1 h63 hbytes hbase
  unfold Oper.wp
  simp only [execOp, hop, resolve, invoke, builtin, Sem.run_bind, Sem.run_pure, Result.andThen_ok, List.map_toArray, List.map_cons, List.map_nil, hs, hx, hr]
  exact hK v' w' h2 h3 h5
theorem litF (w : World) : (w.alloc (.cells #[] 43)).ownsRow w.heap.size 43 3 (.slice (some ⟨w.heap.size, 0, none⟩) 0 0) ([] : List Fl.Ob).length (Fl.ocells []) := World.ownsRow_lit w #[] 0 (Nat.le_refl _) (Nat.zero_le _) rfl
/-- An answer that is a list of files. -/
def FP (r : Int) (L : List Fl.Ob) (w : World) (e : Ending) (w' : World) : Prop := ∃ v, e = .returned (.agg #[.int .i64 r, v]) ∧ w'.ownsRow w.heap.size 43 3 v L.length (Fl.ocells L) ∧ Below w.heap.size w w'
theorem ownMonoF {w : World} {base b : Nat} {e : TypeId} {n : Nat} {v : Value} {m : Nat} {xs : List Value} (h : w.ownsRow base e n v m xs) (hb : b ≤ base) : w.ownsRow b e n v m xs := by
  refine ⟨h.1, ?_⟩
  rcases h.2 with q | ⟨g, cap, cur, h1, h2, h3⟩
  · exact .inl q
  · exact .inr ⟨g, cap, cur, h1, by omega, h3⟩
def sgR (l : List Ob) (s : Int) : Int := if ixf l = 0 then (if inB s 0 3 = true then 0 else 3) else ixf l
def sgL (l : List Ob) (s : Int) : List Fl.Ob := if sgR l s = 0 then stg l s else []
theorem shapeK3 {w : World} {base : Nat} {e : TypeId} {s : Nat} {v : Value} {n : Nat} {xs : List Value} (h : w.ownsRow base e s v n xs) : ∃ a c, v = .slice a n c := by
  rcases h.2 with ⟨h', h0'⟩ | ⟨g, c, cur, h', _⟩
  · exact ⟨none, 0, by rw [h', h0']⟩
  · exact ⟨_, _, h'⟩
set_option maxRecDepth 20000 in
set_option maxHeartbeats 4000000 in
theorem implStageFiles (a : Option Addr) (c : Nat) (l : List Ob) (s : Int) (w : World) (h : OB w.heap.size w a l) (hs : SmallO l) (hn : l.length ≤ 1048576) :
    Calls Tryd.prog 15 #[.slice a l.length c, .int .i64 s] w fun e w' => FP (sgR l s) (sgL l s) w e w' := by
  have hA := fun w h => implIndexFault a c l w h hs hn
  have hB := fun w h => filesAtStageC a c l s w h hs hn
  have hI := fun w => isStageC s w
  have hFF : ¬ ixf l = 0 → Hid (sgR l s = ixf l ∧ sgL l s = []) := fun e => by
    have e1 : sgR l s = ixf l := if_neg e
    exact ⟨e1, if_neg (by rw [e1]; exact e)⟩
  have hRR : ixf l = 0 → inB s 0 3 = false → Hid (sgR l s = 3 ∧ sgL l s = []) := fun e k => by
    have e1 : sgR l s = 3 := by unfold sgR; rw [if_pos e, if_neg (by rw [k]; decide)]
    exact ⟨e1, if_neg (by rw [e1]; decide)⟩
  have hOK : ixf l = 0 → inB s 0 3 = true → Hid (sgR l s = 0 ∧ sgL l s = stg l s) := fun e k => by
    have e1 : sgR l s = 0 := by unfold sgR; rw [if_pos e, if_pos k]
    exact ⟨e1, if_pos e1⟩
  obtain ⟨R, hR⟩ : ∃ R, sgR l s = R := ⟨_, rfl⟩
  obtain ⟨L, hL⟩ : ∃ L, sgL l s = L := ⟨_, rfl⟩
  rw [hR, hL] at hFF hRR hOK ⊢
  obtain ⟨F, hF⟩ : ∃ F, ixf l = F := ⟨_, rfl⟩
  rw [hF] at hA hFF hRR hOK
  clear hF hR hL
  obtain ⟨W1, hW1⟩ : ∃ W1, w.alloc (.cells #[.int .i64 0, .slice none 0 0] 40) = W1 := ⟨_, rfl⟩
  have b1 : Below w.heap.size w W1 := by rw [← hW1]; exact allocBelow _ _
  have zW : w.heap.size < W1.heap.size := by rw [← hW1]; simp
  have r1 : Res2 W1 w.heap.size (.int .i64 0) (.slice none 0 0) := by rw [← hW1]; exact Res2.new _ _ _ _
  have A1 := h.below b1
  go_enter Tryd.func15, Tryd.ntmps15
  go_wp2_with fail
  refine (hA _ (A1.mono (by omega))).mono ?_; rintro e w2 ⟨rfl, b2⟩
  have A2 := A1.below b2
  have r2 := r1.below zW b2
  have B2 := b1.trans (b2.mono b1.size)
  have z2 : w.heap.size < w2.heap.size := Nat.lt_of_lt_of_le zW b2.size
  clear A1 r1 b1 b2 hA hW1 h zW
  by_cases e0 : F = 0
  · replace hRR := hRR e0
    replace hOK := hOK e0
    subst e0
    clear hFF
    cases hin : inB s 0 3 with
    | false =>
      have hC := hRR hin
      rw [hin] at hI
      have d0 := r2.c0
      have d1 := r2.c1
      have f0 := r2.f0
      have f1 := r2.f1
      have HB : Hid (Below w.heap.size w ((w2.setCell ⟨w.heap.size, 0, none⟩ (.int .i64 3)).setCell ⟨w.heap.size, 1, none⟩ (.slice none 0 0))) := below_sets B2 (Nat.le_refl _) _ _
      clear r2 B2 A2 hRR hOK hin
      go_wp2_with fail
      refine (hI _).mono ?_; rintro e w2 ⟨rfl, rfl⟩
      go_wp2
      refine bodyPost_ret (v := .agg #[.int .i64 3, .slice none 0 0]) (by simp [results, Tryd.results15, go_sem, d0, d1]) rfl ?_
      exact ⟨_, ret_agg2 (by rw [hC.out.1]) rfl, by rw [hC.out.2]; exact nilF _ _, HB.out⟩
    | true =>
      have hC := hOK hin
      rw [hin] at hI
      clear hin hRR hOK
      go_wp2_with fail
      refine (hI _).mono ?_; rintro e w2 ⟨rfl, rfl⟩
      clear hI
      go_wp2_with fail
      refine (hB _ (A2.mono (by omega))).mono ?_; rintro e w3 ⟨v3, rfl, o3, b3⟩
      have r3 := r2.below z2 b3
      have B3 := B2.trans (b3.mono (by omega))
      obtain ⟨va, vc, ev⟩ := shapeK3 o3
      subst ev
      have d0 := r3.c0
      have d1 := r3.c1
      have f0 := r3.f0
      have f1 := r3.f1
      have o4 : (w3.setCell ⟨w.heap.size, 0, none⟩ (.int .i64 0)).setCell ⟨w.heap.size, 1, none⟩ (.slice va (stg l s).length vc) |>.ownsRow w.heap.size 43 3 (.slice va (stg l s).length vc) (stg l s).length (Fl.ocells (stg l s)) := (ownMonoF o3 (by omega)).kept (grownTrans (grownSet _ _ _ _) (grownSet _ _ _ _)) (blockCases _ _ fun b c1 c2 => by cases c2; have := (o3.lt _ c1).1; omega)
      have HO : Hid (World.ownsRow _ _ _ _ _ _ _) := o4
      have HB : Hid (Below w.heap.size w ((w3.setCell ⟨w.heap.size, 0, none⟩ (.int .i64 0)).setCell ⟨w.heap.size, 1, none⟩ (.slice va (stg l s).length vc))) := below_sets B3 (Nat.le_refl _) _ _
      clear r3 r2 B2 B3 A2 o3 o4 b3
      obtain ⟨n, hnn⟩ : ∃ n, (stg l s).length = n := ⟨_, rfl⟩
      rw [hnn] at HO HB ⊢
      go_wp2
      refine bodyPost_ret (v := .agg #[.int .i64 0, .slice va n vc]) (by simp [results, Tryd.results15, go_sem, d0, d1]) rfl ?_
      exact ⟨_, ret_agg2 (by rw [hC.out.1]) rfl, by rw [hC.out.2, hnn]; exact HO.out, HB.out⟩
  · have hC := hFF e0
    have qn : (F != 0) = true := ne_beq e0
    have d0 := r2.c0
    have d1 := r2.c1
    have f0 := r2.f0
    have f1 := r2.f1
    have HB : Hid (Below w.heap.size w ((w2.setCell ⟨w.heap.size, 0, none⟩ (.int .i64 F)).setCell ⟨w.heap.size, 1, none⟩ (.slice none 0 0))) := below_sets B2 (Nat.le_refl _) _ _
    clear r2 B2 A2 hRR hOK hFF e0 hI hB
    go_wp2
    refine bodyPost_ret (v := .agg #[.int .i64 F, .slice none 0 0]) (by simp [results, Tryd.results15, go_sem, d0, d1]) rfl ?_
    exact ⟨_, ret_agg2 (by rw [hC.out.1]) rfl, by rw [hC.out.2]; exact nilF _ _, HB.out⟩
end Go.Proofs.YtmeppbfamjeljaaDoor.En
