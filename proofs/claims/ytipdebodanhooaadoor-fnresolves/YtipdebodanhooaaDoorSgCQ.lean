/- The files of the entries of one stage: the contracts of filesAtStage and l10Stage, of StageFiles. No statement is proved here. -/
import Derived.Test.YtipdebodanhooaaDoorRows
import Derived.Test.YtipdebodanhooaaDoorLemQ
import Derived.Test.YtipdebodanhooaaDoorDTabQ
import Derived.Test.YtipdebodanhooaaDoorHkTQ
import Derived.Test.YtipdebodanhooaaDoorWvCQ
import Derived.Test.YtipdebodanhooaaDoorFmCQ
import Derived.Test.YtipdebodanhooaaDoorFlLQ
import Derived.Test.YtipdebodanhooaaDoorEnLQ
import Derived.Test.YtipdebodanhooaaDoorIxMQ
import Derived.Test.YtipdebodanhooaaDoorIxIQ
import Derived.Test.YtipdebodanhooaaDoorIxSQ
import Derived.WalkKit
import Derived.ProofKit
import Derived.Below
import Derived.WalkSpells
import Derived.Deep.QuietTactic
import Derived.BigQuiet
import Derived.Deep.RegionWith
import Derived.Deep.RegionHeld
import Derived.Deep.CutRange
import Derived.Maps.AppendAt
import Derived.Laws.Cover1
namespace Go.Proofs.YtipdebodanhooaaDoor.En
open Go.ChangeShapes Go.WideShapes Go.ChangeAt Go.RowKit

/-- The file of an entry; the files of a stage. -/
def fil (o : Ob) : Fl.Ob := (o.1, o.2.2.1, o.2.2.2)
def stg (l : List Ob) (s : Int) : List Fl.Ob := (l.filter fun o => o.2.1 == s).map fil
theorem stg_yes (l : List Ob) (s : Int) (k : Nat) (h : k < l.length) (e : (l.getD k onil).2.1 = s) : stg (l.take (k + 1)) s = stg (l.take k) s ++ [fil (l.getD k onil)] := by
  unfold stg
  rw [ob_take l k h, List.filter_append, List.map_append]
  congr 1
  rw [List.filter_cons_of_pos (by rw [e]; simp)]
  rfl
theorem stg_no (l : List Ob) (s : Int) (k : Nat) (h : k < l.length) (e : ¬ (l.getD k onil).2.1 = s) : stg (l.take (k + 1)) s = stg (l.take k) s := by
  unfold stg
  rw [ob_take l k h, List.filter_append, List.filter_cons_of_neg (by simpa using e)]
  simp
theorem stg_len (l : List Ob) (s : Int) : (stg l s).length ≤ l.length := by
  unfold stg
  rw [List.length_map]
  exact List.length_filter_le _ _
theorem stg_take_len (l : List Ob) (s : Int) (k : Nat) : (stg (l.take k) s).length ≤ l.length := by
  have h1 := stg_len (l.take k) s
  rw [List.length_take] at h1
  omega
/-- An append of files onto a row that is owned. -/
theorem oneF (l : List Fl.Ob) : ∀ u ∈ Fl.ocells l, u.oneCell' = true := by
  intro u hu
  unfold Fl.ocells Fl.rowG at hu
  obtain ⟨j, _, rfl⟩ := List.mem_map.1 hu
  unfold Fl.ocell
  split
  · rfl
  · split <;> rfl
theorem wpList_appF {w : World} {ops : Array Oper} {rest : List Oper} {o : Oper} {a : Act} {Q : Exit → Act → World → Prop} (hgd : o.guard = none) (s x : Operand)
    (ho : o.op = .call { callee := .builtin .append, args := #[s, x], argTypes := #[38, 38] })
    (base : Nat) (v : Value) (S0 : List Fl.Ob) (hs : a.eval s = v) (hown : w.ownsRow base 43 3 v S0.length (Fl.ocells S0))
    (AD : Addr) (cx : Nat) (S1 : List Fl.Ob) (hx : a.eval x = .slice (some AD) S1.length cx) (hx2 : ∀ j u, (Fl.ocells S1)[j]? = some u → w.cell? (AD.add j) = some u)
    (hb : S0.length + S1.length ≤ 2097152) (hbase : base ≤ w.heap.size)
    (h : ∀ v' w', w'.ownsRow base 43 3 v' (S0 ++ S1).length (Fl.ocells (S0 ++ S1)) → w.grownBy w' v.ownBlock → (v' = .slice none 0 0 ↔ v = .slice none 0 0 ∧ S1.length = 0) → (v'.ownBlock = v.ownBlock ∨ v'.ownBlock = some w.heap.size) → wpList Tryd.prog ops Q rest (a.put o.dst v') w') :
    wpList Tryd.prog ops Q (o :: rest) a w := by
  obtain ⟨i0, hi, hz0, hz1, hz2⟩ := info_parts Fl.infoObj
  refine wpList_append_own_at _ hgd s x _ ho base _ i0 _ 3 40 Tryd.underlying38 hi hz0 hz1 hz2 rfl (by decide) v _ _ hs hown AD S1.length cx (Fl.ocells S1) hx (Fl.ocells_length _) hx2 (oneF _) (by unfold maxLen; omega) (by omega) hbase ?_
  intro v' w' o1 g1 n1 k1
  refine h v' w' ?_ g1 n1 k1
  rw [List.length_append, Fl.ocells_app]; exact o1
theorem newF (w : World) (f : Fl.Ob) : ∀ j u, (Fl.ocells [f])[j]? = some u → (w.alloc (.cells #[.string f.1, .int .i64 f.2.1, .string f.2.2] 43)).cell? ((⟨w.heap.size, 0, none⟩ : Addr).add j) = some u := by
  intro j u hu
  rw [Fl.ocells_one] at hu
  have h := Rs.new w #[.string f.1, .int .i64 f.2.1, .string f.2.2] 43 j u hu
  rw [add_plain, Nat.zero_add]
  exact h
theorem setCell_id {w : World} {b i : Nat} {v : Value} (h : w.cell? ⟨b, i, none⟩ = some v) : w.setCell ⟨b, i, none⟩ v = w := by
  have hh : (w.setCell ⟨b, i, none⟩ v).heap = w.heap := by
    apply Array.ext_getElem?
    intro k
    by_cases e : b = k
    · subst e
      cases ho : w.heap[b]? with
      | none => simp [World.setCell, Array.getElem?_modify, ho]
      | some o =>
        cases o with
        | cells c t fr =>
          have hc : c[i]? = some v := by simpa [World.cell?, ho] using h
          have hs : c.setIfInBounds i v = c := by
            apply Array.ext_getElem?
            intro j
            rw [Array.getElem?_setIfInBounds]
            by_cases q : i = j
            · subst q
              rw [if_pos rfl, hc, if_pos (Array.getElem?_eq_some_iff.1 hc).1]
            · rw [if_neg q]
          simp [World.setCell, Array.getElem?_modify, ho, hs]
        | _ => simp [World.setCell, Array.getElem?_modify, ho]
    · simp [World.setCell, Array.getElem?_modify, e]
  cases w
  simp only [World.setCell] at hh ⊢
  rw [hh]
set_option maxHeartbeats 1000000 in
theorem fileInC (o : Ob) (w : World) : Calls Tryd.prog 32 #[.agg #[.string o.1, .int .i64 o.2.1, .int .i64 o.2.2.1, .string o.2.2.2]] w fun e w' => e = .returned (.agg #[.string o.1, .int .i64 o.2.2.1, .string o.2.2.2]) ∧ Below w.heap.size w w' := by
  obtain ⟨x0, x1, x2, x3⟩ := o
  simp only []
  go_enter Tryd.func32, Tryd.ntmps32
  go_wp2
  refine bodyPost_ret (v := .agg #[.string x0, .int .i64 x2, .string x3]) (by simp [results, Tryd.results32, go_sem]) rfl ⟨rfl, ?_⟩
  exact ((Below.refl _ _).alloc (Nat.le_refl _) _).alloc (by simp) _
set_option maxRecDepth 20000 in
set_option maxHeartbeats 4000000 in
theorem cloneFileC (o : Fl.Ob) (w : World) (h0 : o.1.size ≤ 1048576) (h2 : o.2.2.size ≤ 1048576) : Calls Tryd.prog 64 #[.agg #[.string o.1, .int .i64 o.2.1, .string o.2.2]] w fun e w' => e = .returned (.agg #[.string o.1, .int .i64 o.2.1, .string o.2.2]) ∧ Below w.heap.size w w' := by
  obtain ⟨x0, x1, x2⟩ := o
  simp only [] at h0 h2 ⊢
  have hC0 := fun W => cloneS x0 W (by omega)
  have hC2 := fun W => cloneS x2 W (by omega)
  obtain ⟨W, hW⟩ : ∃ W, (w.alloc (.cells #[.string x0, .int .i64 x1, .string x2] 43)).alloc (.cells #[.string ⟨#[]⟩, .int .i64 0, .string ⟨#[]⟩] 43) = W := ⟨_, rfl⟩
  have B : Below w.heap.size w W := by rw [← hW]; exact ((Below.refl _ _).alloc (Nat.le_refl _) _).alloc (by simp) _
  have z1 : w.heap.size + 1 < W.heap.size := by rw [← hW]; simp
  have ra : Rf (w.alloc (.cells #[.string x0, .int .i64 x1, .string x2] 43)) w.heap.size [.string x0, .int .i64 x1, .string x2] := Rf.new _ _ _
  have ra : Rf W w.heap.size [.string x0, .int .i64 x1, .string x2] := by rw [← hW]; exact ra.below (by simp) (allocBelow _ _)
  have rb : Rf W (w.heap.size + 1) [.string ⟨#[]⟩, .int .i64 0, .string ⟨#[]⟩] := by
    have q : Rf ((w.alloc (.cells #[.string x0, .int .i64 x1, .string x2] 43)).alloc (.cells #[.string ⟨#[]⟩, .int .i64 0, .string ⟨#[]⟩] 43)) (w.alloc (.cells #[.string x0, .int .i64 x1, .string x2] 43)).heap.size [.string ⟨#[]⟩, .int .i64 0, .string ⟨#[]⟩] := Rf.new _ _ _
    rw [hW, World.size_alloc] at q
    exact q
  have fin : ∀ V, Below W.heap.size W V → Hid (V.setCell ⟨w.heap.size, 0, none⟩ (.string x0) = V ∧ V.setCell ⟨w.heap.size, 2, none⟩ (.string x2) = V ∧ Rf V w.heap.size [.string x0, .int .i64 x1, .string x2] ∧ Rf V (w.heap.size + 1) [.string ⟨#[]⟩, .int .i64 0, .string ⟨#[]⟩] ∧ Below w.heap.size w V) := fun V b => by
    have r1 := ra.below (by omega) b
    have r2 := rb.below (by omega) b
    exact ⟨setCell_id (r1.at_ 0 _ rfl), setCell_id (r1.at_ 2 _ rfl), r1, r2, B.trans (b.mono B.size)⟩
  have FIN : Hid (∀ V, Below W.heap.size W V → Hid (V.setCell ⟨w.heap.size, 0, none⟩ (.string x0) = V ∧ V.setCell ⟨w.heap.size, 2, none⟩ (.string x2) = V ∧ Rf V w.heap.size [.string x0, .int .i64 x1, .string x2] ∧ Rf V (w.heap.size + 1) [.string ⟨#[]⟩, .int .i64 0, .string ⟨#[]⟩] ∧ Below w.heap.size w V)) := fin
  clear fin
  have c0 := ra.at_ 0 _ rfl
  have c2 := ra.at_ 2 _ rfl
  clear ra rb B z1
  go_enter Tryd.func64, Tryd.ntmps64
  go_wp2_with fail
  go_cut [] from 3 to 11 (fun wx => Below W.heap.size W wx)
  case first =>
    have BD : Below W.heap.size W W.drew := (Below.refl _ _).drew
    go_region_held (fun w' => w'.cell? ⟨w.heap.size, 0, none⟩ = some (.string x0) ∧ w'.cell? ⟨w.heap.size, 2, none⟩ = some (.string x2)) (first | with_reducible exact ⟨c0, c2⟩ | with_reducible exact ⟨d0, d2⟩ | with_reducible exact ⟨e0, e2⟩ | exact ⟨c0, c2⟩)
      ((first
        | (go_at_call 50; have gd := B1; clear gd; refine (hC2 _).mono ?_; rintro e w2 ⟨rfl, b2⟩; have B2 := B1.trans (b2.mono B1.size); obtain ⟨s20, s22, t2, _, _⟩ := (FIN.out w2 B2).out; have e0 := t2.at_ 0 _ rfl; have e2 := t2.at_ 2 _ rfl; have f20 := t2.fz 0; have f22 := t2.fz 2; clear t2)
        | (go_at_call 50; refine (hC0 _).mono ?_; rintro e w1 ⟨rfl, b1⟩; have B1 := BD.trans b1; obtain ⟨s10, s12, t1, _, _⟩ := (FIN.out w1 B1).out; have d0 := t1.at_ 0 _ rfl; have d2 := t1.at_ 2 _ rfl; have f10 := t1.fz 0; have f12 := t1.fz 2; clear t1)))
    all_goals (go_wp2_with fail; go_meet; exact B2)
  case rest =>
  obtain ⟨_, _, t1, t2, B2⟩ := (FIN.out _ hcut).out
  have c0 := t1.at_ 0 _ rfl
  have c1 := t1.at_ 1 _ rfl
  have c2 := t1.at_ 2 _ rfl
  have g0 := t2.at_ 0 _ rfl
  have g1 := t2.at_ 1 _ rfl
  have g2 := t2.at_ 2 _ rfl
  have k0 := t2.fz 0
  have k1 := t2.fz 1
  have k2 := t2.fz 2
  have tS := ((t2.set (o := 0) (by simp) (.string x0)).set (o := 1) (by simp) (.int .i64 x1)).set (o := 2) (by simp) (.string x2)
  have BV := ((B2.setCell (p := ⟨w.heap.size + 1, 0, none⟩) (Nat.le_succ _) (.string x0)).setCell (p := ⟨w.heap.size + 1, 1, none⟩) (Nat.le_succ _) (.int .i64 x1)).setCell (p := ⟨w.heap.size + 1, 2, none⟩) (Nat.le_succ _) (.string x2)
  obtain ⟨V, hV⟩ : ∃ V, ((wc.setCell ⟨w.heap.size + 1, 0, none⟩ (.string x0)).setCell ⟨w.heap.size + 1, 1, none⟩ (.int .i64 x1)).setCell ⟨w.heap.size + 1, 2, none⟩ (.string x2) = V := ⟨_, rfl⟩
  rw [hV] at tS BV
  have v0 := tS.at_ 0 _ rfl
  have v1 := tS.at_ 1 _ rfl
  have v2 := tS.at_ 2 _ rfl
  have HV : Hid (_ = V) := hV
  clear FIN t1 t2 hcut hC0 hC2 tS hV B2
  go_wp2
  rw [HV.out]
  refine bodyPost_ret (v := .agg #[.string x0, .int .i64 x1, .string x2]) (by simp [results, Tryd.results64, go_sem, v0, v1, v2]) rfl ⟨rfl, BV⟩
/-- What is answered: files in memory of their own. -/
def SF (L : List Fl.Ob) (w : World) (e : Ending) (w' : World) : Prop := ∃ v, e = .returned v ∧ w'.ownsRow w.heap.size 43 3 v L.length (Fl.ocells L) ∧ Below w.heap.size w w'
theorem nilF (base : Nat) (w : World) : w.ownsRow base 43 3 (.slice none 0 0) ([] : List Fl.Ob).length (Fl.ocells []) := ⟨rfl, .inl ⟨rfl, rfl⟩⟩
set_option maxRecDepth 20000 in
set_option maxHeartbeats 4000000 in
theorem filesAtStageC (a : Option Addr) (c : Nat) (l : List Ob) (s : Int) (w : World) (h : OB w.heap.size w a l) (hs : SmallO l) (hn : l.length ≤ 1048576) :
    Calls Tryd.prog 44 #[.slice a l.length c, .int .i64 s] w fun e w' => SF (stg l s) w e w' := by
  go_enter Tryd.func44, Tryd.ntmps44
  go_wp2
  go_loopw [5, 7, 10] (fun v _o i wr => ∃ k : Nat, k ≤ l.length ∧ i = .int .i64 k ∧ wr.ownsRow w.heap.size 43 3 v (stg (l.take k) s).length (Fl.ocells (stg (l.take k) s)) ∧ Below w.heap.size w wr) (fun _ _ i _ => l.length - (intOf i).toNat)
  case atStart => exact ⟨0, Nat.zero_le _, rfl, nilF _ _, Below.refl _ _⟩
  case round =>
    obtain ⟨k, hk, rfl, hor, hbel⟩ := hrel
    have hsz := hbel.size
    by_cases hlt : k < l.length
    · have qk : (k : Int) < (l.length : Int) := by omega
      obtain ⟨g, off, e, hg, d0, d1, d2, d3⟩ := (h.below hbel) k hlt
      subst e
      have hsl := hs _ (ob_mem l k hlt)
      have hy := stg_yes l s k hlt
      have hno := stg_no l s k hlt
      have hln := stg_take_len l s k
      obtain ⟨C, hCe⟩ : ∃ C, l.getD k onil = C := ⟨_, rfl⟩
      obtain ⟨x0, x1, x2, x3⟩ := C
      rw [hCe] at d0 d1 d2 d3 hsl hy hno
      simp only [] at d0 d1 d2 d3 hsl hy hno
      obtain ⟨T, hT⟩ : ∃ T, stg (l.take k) s = T := ⟨_, rfl⟩
      rw [hT] at hor hy hno hln
      obtain ⟨W, hW⟩ : ∃ W, wr.alloc (.cells #[.string x0, .int .i64 x1, .int .i64 x2, .string x3] 62) = W := ⟨_, rfl⟩
      have bW : Below wr.heap.size wr W := by rw [← hW]; exact allocBelow _ _
      have oW : Rf W wr.heap.size [.string x0, .int .i64 x1, .int .i64 x2, .string x3] := by rw [← hW]; exact Rf.new _ _ _
      have m0 := oW.at_ 0 _ rfl
      have m1 := oW.at_ 1 _ rfl
      have m2 := oW.at_ 2 _ rfl
      have m3 := oW.at_ 3 _ rfl
      have B1 : Below w.heap.size w W := below_step hbel hsz bW
      have o1 : W.ownsRow w.heap.size 43 3 _ T.length (Fl.ocells T) := hor.kept (grownOfBelow bW none) (blockCases _ _ fun b c1 c2 => by cases c2)
      clear hCe hT hbel hor bW oW
      by_cases hx : x1 = s
      · subst hx
        have HY : Hid (stg (l.take (k + 1)) x1 = T ++ [fil (x0, x1, x2, x3)]) := hy rfl
        clear hy hno
        have qe : (x1 == x1) = true := by simp
        have hF := fun W => fileInC (x0, x1, x2, x3) W
        have hC := fun W => cloneFileC (x0, x2, x3) W hsl.1 hsl.2
        simp only [] at hF hC
        go_wp2_with fail
        refine (hF _).mono ?_; rintro e w2 ⟨rfl, b2⟩
        have B2 := below_step B1 B1.size b2
        have o2 := o1.kept (grownOfBelow b2 none) (blockCases _ _ fun b c1 c2 => by cases c2)
        clear hF B1 o1 b2 m0 m1 m2 m3 d0 d1 d2 d3 hW
        go_wp2_with fail
        refine (hC _).mono ?_; rintro e w3 ⟨rfl, b3⟩
        have B3 := below_step B2 B2.size b3
        have o3 := o2.kept (grownOfBelow b3 none) (blockCases _ _ fun b c1 c2 => by cases c2)
        have z3 := B3.size
        clear hC B2 o2 b3
        have bN := allocBelow w3 (.cells #[.string x0, .int .i64 x2, .string x3] 43)
        have o4 := o3.kept (grownOfBelow bN none) (blockCases _ _ fun b c1 c2 => by cases c2)
        have nw := newF w3 (x0, x2, x3)
        have B4 := below_step B3 z3 bN
        have z4 := B4.size
        clear bN o3 B3
        go_wp2_with (at_builtin; refine wpList_appF rfl (.tmp 18) (.tmp 22) rfl w.heap.size _ _ rfl o4 _ _ [(x0, x2, x3)] rfl nw (by simp; omega) z4 ?_; intro v5 w5 o5 g5 n5 _)
        have B5 : Below w.heap.size w w5 := B4.grown g5 z4 (fun j hj => (o4.lt j hj).1)
        have O5 : Hid (w5.ownsRow w.heap.size 43 3 v5 (T ++ [(x0, x2, x3)]).length (Fl.ocells (T ++ [(x0, x2, x3)]))) := o5
        clear o4 nw g5 n5 B4 o5
        go_wp2
        go_roundw
        case rel => exact ⟨k + 1, by omega, by go_num, by rw [HY.out]; exact O5.out, B5⟩
        case measure => first | (simp [intOf]; omega) | simp [intOf]
      · have HN : Hid (stg (l.take (k + 1)) s = T) := hno hx
        clear hy hno
        have qe : (x1 == s) = false := by simp [hx]
        have O1 : Hid (W.ownsRow w.heap.size 43 3 _ T.length (Fl.ocells T)) := o1
        clear o1
        go_wp2
        go_roundw
        case rel => exact ⟨k + 1, by omega, by go_num, by rw [HN.out]; exact O1.out, B1⟩
        case measure => first | (simp [intOf]; omega) | simp [intOf]
    · have qk : ¬ (k : Int) < (l.length : Int) := by omega
      have ek : l.take k = l := List.take_of_length_le (by omega)
      rw [ek] at hor
      have HO : Hid (World.ownsRow _ _ _ _ _ _ _) := hor
      clear hor ek
      go_wp2
      go_ret
      exact ⟨_, rfl, HO.out, hbel⟩
end Go.Proofs.YtipdebodanhooaaDoor.En
/- The contracts of StageFiles. No statement is proved here. -/
namespace Go.Proofs.YtipdebodanhooaaDoor.En
open Go.ChangeShapes Go.WideShapes Go.ChangeAt Go.RowKit

theorem stepApp {P : Program} {ops : Array Oper} {o : Oper} {a : Act} {w : World} {K : Act → World → Prop} {Q : Exit → Act → World → Prop} {E : Prop}
    (hg : o.guard = none) (s x : Operand) (t : TypeId) (hop : o.op = Op.call { callee := Callee.builtin Builtin.append, args := #[s, x], argTypes := #[t, t] })
    (base : Nat) (e : TypeId) (i : TypeInfo) (z : Value) (size bytes : Nat) (ht : P.underlying t = some (.slice e)) (hi : P.info? e = some i) (hz : i.zero = some z)
    (hsize : i.size = size) (hby : i.bytes = bytes) (hzs : z.cells.size = size) (hsz : 0 < size)
    (v : Value) (n : Nat) (xs : List Value) (hs : a.eval s = v) (hown : w.ownsRow base e size v n xs)
    (ad : Addr) (m c : Nat) (news : List Value) (hx : a.eval x = .slice (some ad) m c) (hl : news.length = m * size) (hnews : ∀ j u, news[j]? = some u → w.cell? (ad.add j) = some u) (h1 : ∀ u ∈ news, u.oneCell' = true)
    (h63 : n + m ≤ maxLen) (hbytes : (n + m) * bytes ≤ 140737488355328) (hbase : base ≤ w.heap.size)
    (hK : ∀ v' w', w'.ownsRow base e size v' (n + m) (xs ++ news) → w.grownBy w' v.ownBlock → (v'.ownBlock = v.ownBlock ∨ v'.ownBlock = some w.heap.size) → K (a.put o.dst v') w') :
    if Region.wanted o (yielded ops a.tmps) = true then Oper.wp P o a w K Q else E := by
  have hw : Region.wanted o (yielded ops a.tmps) = true := by simp [Region.wanted, hg]
  rw [if_pos hw]
  obtain ⟨v', w', hr, h2, h3, h4, h5⟩ := run_append_own_at (P := P) w base t o.type e i z size bytes ht hi hz hsize hby hzs hsz v n xs hown ad m c news hl hnews h1 h63 hbytes hbase
  unfold Oper.wp
  simp only [execOp, hop, resolve, invoke, builtin, Sem.run_bind, Sem.run_pure, Result.andThen_ok, List.map_toArray, List.map_cons, List.map_nil, hs, hx, hr]
  exact hK v' w' h2 h3 h5
theorem litF (w : World) : (w.alloc (.cells #[] 43)).ownsRow w.heap.size 43 3 (.slice (some ⟨w.heap.size, 0, none⟩) 0 0) ([] : List Fl.Ob).length (Fl.ocells []) := World.ownsRow_lit w #[] 0 (Nat.le_refl _) (Nat.zero_le _) rfl
/-- An answer that is a list of files. -/
def FP (r : Int) (L : List Fl.Ob) (w : World) (e : Ending) (w' : World) : Prop := ∃ v, e = .returned (.agg #[.int .i64 r, v]) ∧ w'.ownsRow w.heap.size 43 3 v L.length (Fl.ocells L) ∧ Below w.heap.size w w'
theorem ownMonoF {w : World} {base b : Nat} {e : TypeId} {n : Nat} {v : Value} {m : Nat} {xs : List Value} (h : w.ownsRow base e n v m xs) (hb : b ≤ base) : w.ownsRow b e n v m xs := by
  refine ⟨h.1, ?_⟩
  rcases h.2 with q | ⟨g, cap, cur, h1, h2, h3⟩
  · exact .inl q
  · exact .inr ⟨g, cap, cur, h1, by omega, h3⟩
def sgR (l : List Ob) (s : Int) : Int := if ixf l = 0 then (if inB s 0 3 = true then 0 else 3) else ixf l
def sgL (l : List Ob) (s : Int) : List Fl.Ob := if sgR l s = 0 then stg l s else []
theorem shapeK3 {w : World} {base : Nat} {e : TypeId} {s : Nat} {v : Value} {n : Nat} {xs : List Value} (h : w.ownsRow base e s v n xs) : ∃ a c, v = .slice a n c := by
  rcases h.2 with ⟨h', h0'⟩ | ⟨g, c, cur, h', _⟩
  · exact ⟨none, 0, by rw [h', h0']⟩
  · exact ⟨_, _, h'⟩
set_option maxRecDepth 20000 in
set_option maxHeartbeats 4000000 in
theorem implStageFiles (a : Option Addr) (c : Nat) (l : List Ob) (s : Int) (w : World) (h : OB w.heap.size w a l) (hs : SmallO l) (hn : l.length ≤ 1048576) :
    Calls Tryd.prog 14 #[.slice a l.length c, .int .i64 s] w fun e w' => FP (sgR l s) (sgL l s) w e w' := by
  have hA := fun w h => implIndexFault a c l w h hs hn
  have hB := fun w h => filesAtStageC a c l s w h hs hn
  have hI := fun w => isStageC s w
  have hFF : ¬ ixf l = 0 → Hid (sgR l s = ixf l ∧ sgL l s = []) := fun e => by
    have e1 : sgR l s = ixf l := if_neg e
    exact ⟨e1, if_neg (by rw [e1]; exact e)⟩
  have hRR : ixf l = 0 → inB s 0 3 = false → Hid (sgR l s = 3 ∧ sgL l s = []) := fun e k => by
    have e1 : sgR l s = 3 := by unfold sgR; rw [if_pos e, if_neg (by rw [k]; decide)]
    exact ⟨e1, if_neg (by rw [e1]; decide)⟩
  have hOK : ixf l = 0 → inB s 0 3 = true → Hid (sgR l s = 0 ∧ sgL l s = stg l s) := fun e k => by
    have e1 : sgR l s = 0 := by unfold sgR; rw [if_pos e, if_pos k]
    exact ⟨e1, if_pos e1⟩
  obtain ⟨R, hR⟩ : ∃ R, sgR l s = R := ⟨_, rfl⟩
  obtain ⟨L, hL⟩ : ∃ L, sgL l s = L := ⟨_, rfl⟩
  rw [hR, hL] at hFF hRR hOK ⊢
  obtain ⟨F, hF⟩ : ∃ F, ixf l = F := ⟨_, rfl⟩
  rw [hF] at hA hFF hRR hOK
  clear hF hR hL
  obtain ⟨W1, hW1⟩ : ∃ W1, w.alloc (.cells #[.int .i64 0, .slice none 0 0] 40) = W1 := ⟨_, rfl⟩
  have b1 : Below w.heap.size w W1 := by rw [← hW1]; exact allocBelow _ _
  have zW : w.heap.size < W1.heap.size := by rw [← hW1]; simp
  have r1 : Res2 W1 w.heap.size (.int .i64 0) (.slice none 0 0) := by rw [← hW1]; exact Res2.new _ _ _ _
  have A1 := h.below b1
  go_enter Tryd.func14, Tryd.ntmps14
  go_wp2_with fail
  refine (hA _ (A1.mono (by omega))).mono ?_; rintro e w2 ⟨rfl, b2⟩
  have A2 := A1.below b2
  have r2 := r1.below zW b2
  have B2 := b1.trans (b2.mono b1.size)
  have z2 : w.heap.size < w2.heap.size := Nat.lt_of_lt_of_le zW b2.size
  clear A1 r1 b1 b2 hA hW1 h zW
  by_cases e0 : F = 0
  · replace hRR := hRR e0
    replace hOK := hOK e0
    subst e0
    clear hFF
    cases hin : inB s 0 3 with
    | false =>
      have hC := hRR hin
      rw [hin] at hI
      have d0 := r2.c0
      have d1 := r2.c1
      have f0 := r2.f0
      have f1 := r2.f1
      have HB : Hid (Below w.heap.size w ((w2.setCell ⟨w.heap.size, 0, none⟩ (.int .i64 3)).setCell ⟨w.heap.size, 1, none⟩ (.slice none 0 0))) := below_sets B2 (Nat.le_refl _) _ _
      clear r2 B2 A2 hRR hOK hin
      go_wp2_with fail
      refine (hI _).mono ?_; rintro e w2 ⟨rfl, rfl⟩
      go_wp2
      refine bodyPost_ret (v := .agg #[.int .i64 3, .slice none 0 0]) (by simp [results, Tryd.results14, go_sem, d0, d1]) rfl ?_
      exact ⟨_, ret_agg2 (by rw [hC.out.1]) rfl, by rw [hC.out.2]; exact nilF _ _, HB.out⟩
    | true =>
      have hC := hOK hin
      rw [hin] at hI
      clear hin hRR hOK
      go_wp2_with fail
      refine (hI _).mono ?_; rintro e w2 ⟨rfl, rfl⟩
      clear hI
      go_wp2_with fail
      refine (hB _ (A2.mono (by omega))).mono ?_; rintro e w3 ⟨v3, rfl, o3, b3⟩
      have r3 := r2.below z2 b3
      have B3 := B2.trans (b3.mono (by omega))
      obtain ⟨va, vc, ev⟩ := shapeK3 o3
      subst ev
      have d0 := r3.c0
      have d1 := r3.c1
      have f0 := r3.f0
      have f1 := r3.f1
      have o4 : (w3.setCell ⟨w.heap.size, 0, none⟩ (.int .i64 0)).setCell ⟨w.heap.size, 1, none⟩ (.slice va (stg l s).length vc) |>.ownsRow w.heap.size 43 3 (.slice va (stg l s).length vc) (stg l s).length (Fl.ocells (stg l s)) := (ownMonoF o3 (by omega)).kept (grownTrans (grownSet _ _ _ _) (grownSet _ _ _ _)) (blockCases _ _ fun b c1 c2 => by cases c2; have := (o3.lt _ c1).1; omega)
      have HO : Hid (World.ownsRow _ _ _ _ _ _ _) := o4
      have HB : Hid (Below w.heap.size w ((w3.setCell ⟨w.heap.size, 0, none⟩ (.int .i64 0)).setCell ⟨w.heap.size, 1, none⟩ (.slice va (stg l s).length vc))) := below_sets B3 (Nat.le_refl _) _ _
      clear r3 r2 B2 B3 A2 o3 o4 b3
      obtain ⟨n, hnn⟩ : ∃ n, (stg l s).length = n := ⟨_, rfl⟩
      rw [hnn] at HO HB ⊢
      go_wp2
      refine bodyPost_ret (v := .agg #[.int .i64 0, .slice va n vc]) (by simp [results, Tryd.results14, go_sem, d0, d1]) rfl ?_
      exact ⟨_, ret_agg2 (by rw [hC.out.1]) rfl, by rw [hC.out.2, hnn]; exact HO.out, HB.out⟩
  · have hC := hFF e0
    have qn : (F != 0) = true := ne_beq e0
    have d0 := r2.c0
    have d1 := r2.c1
    have f0 := r2.f0
    have f1 := r2.f1
    have HB : Hid (Below w.heap.size w ((w2.setCell ⟨w.heap.size, 0, none⟩ (.int .i64 F)).setCell ⟨w.heap.size, 1, none⟩ (.slice none 0 0))) := below_sets B2 (Nat.le_refl _) _ _
    clear r2 B2 A2 hRR hOK hFF e0 hI hB
    go_wp2
    refine bodyPost_ret (v := .agg #[.int .i64 F, .slice none 0 0]) (by simp [results, Tryd.results14, go_sem, d0, d1]) rfl ?_
    exact ⟨_, ret_agg2 (by rw [hC.out.1]) rfl, by rw [hC.out.2]; exact nilF _ _, HB.out⟩
end Go.Proofs.YtipdebodanhooaaDoor.En
