/- The files of the entries of one stage: the contracts of filesAtStage and l10Stage, of StageFiles. No statement is proved here. -/
import Derived.Test.YtgincoiehbdphaaGreatDoorWvCQ
import Derived.Test.YtgincoiehbdphaaGreatDoorFlLQ
import Derived.Test.YtgincoiehbdphaaGreatDoorIxIQ
namespace Go.Proofs.YtgincoiehbdphaaGreatDoor.En
open Go.ChangeShapes Go.WideShapes Go.ChangeAt Go.RowKit
def fil (o : Ob) : Fl.Ob := (o.1, o.2.2.1, o.2.2.2)
def stg (l : List Ob) (s : Int) : List Fl.Ob := (l.filter fun o => o.2.1 == s).map fil
theorem stg_yes (l : List Ob) (s : Int) (k : Nat) (h : k < l.length) (e : (l.getD k onil).2.1 = s) : stg (l.take (k + 1)) s = stg (l.take k) s ++ [fil (l.getD k onil)] := by
 unfold stg
 rw [ob_take l k h, List.filter_append, List.map_append]
 congr 1
 rw [List.filter_cons_of_pos (by rw [e]; simp)]
 rfl
theorem stg_no (l : List Ob) (s : Int) (k : Nat) (h : k < l.length) (e : ¬ (l.getD k onil).2.1 = s) : stg (l.take (k + 1)) s = stg (l.take k) s := by
 unfold stg
 rw [ob_take l k h, List.filter_append, List.filter_cons_of_neg (by simpa using e)]
 simp
theorem stg_len (l : List Ob) (s : Int) : (stg l s).length <= l.length := by
 unfold stg
 rw [List.length_map]
 exact List.length_filter_le _ _
theorem stg_take_len (l : List Ob) (s : Int) (k : Nat) : (stg (l.take k) s).length <= l.length := by
 have h1 := stg_len (l.take k) s
 rw [List.length_take] at h1
 omega
theorem oneF (l : List Fl.Ob) : ∀ u ∈ Fl.ocells l, u.oneCell' = true := by
 intro u hu
 unfold Fl.ocells Fl.rowG at hu
 obtain ⟨j, _, rfl⟩ := List.mem_map.1 hu
 unfold Fl.ocell
 split
 ·rfl
 ·split <;> rfl
theorem wpList_appF {w : World} {ops : Array Oper} {rest : List Oper} {o : Oper} {a : Act} {Q : Exit -> Act -> World -> Prop} (hgd : o.guard = none) (s x : Operand)
  (ho : o.op = .call { callee := .builtin .append, args := #[s, x], argTypes := #[62, 62] })
  (base : Nat) (v : Value) (S0 : List Fl.Ob) (hs : a.eval s = v) (hown : w.ownsRow base 34 3 v S0.length (Fl.ocells S0))
  (AD : Addr) (cx : Nat) (S1 : List Fl.Ob) (hx : a.eval x = .slice (some AD) S1.length cx) (hx2 : ∀ j u, (Fl.ocells S1)[j]? = some u -> w.cell? (AD.add j) = some u)
  (hb : S0.length + S1.length <= 2097152) (hbase : base <= w.heap.size)
  (h : ∀ v' w', w'.ownsRow base 34 3 v' (S0 ++ S1).length (Fl.ocells (S0 ++ S1)) -> w.grownBy w' v.ownBlock -> (v' = .slice none 0 0 ↔ v = .slice none 0 0 /\ S1.length = 0) -> (v'.ownBlock = v.ownBlock \/ v'.ownBlock = some w.heap.size) -> wpList Tryz.prog ops Q rest (a.put o.dst v') w') :
  wpList Tryz.prog ops Q (o :: rest) a w := by
 obtain ⟨i0, hi, hz0, hz1, hz2⟩ := info_parts Fl.infoObj
 refine wpList_append_own_at _ hgd s x _ ho base _ i0 _ 3 40 Tryz.underlying62 hi hz0 hz1 hz2 rfl (by decide) v _ _ hs hown AD S1.length cx (Fl.ocells S1) hx (Fl.ocells_length _) hx2 (oneF _) (by unfold maxLen; omega) (by omega) hbase ?_
 intro v' w' o1 g1 n1 k1
 refine h v' w' ?_ g1 n1 k1
 rw [List.length_append, Fl.ocells_app]; exact o1
theorem newF (w : World) (f : Fl.Ob) : ∀ j u, (Fl.ocells [f])[j]? = some u -> (w.alloc (.cells #[.string f.1, .int .i64 f.2.1, .string f.2.2] 34)).cell? ((⟨w.heap.size, 0, none⟩ : Addr).add j) = some u := by
 intro j u hu
 rw [Fl.ocells_one] at hu
 have h := Rs.new w #[.string f.1, .int .i64 f.2.1, .string f.2.2] 34 j u hu
 rw [add_plain, Nat.zero_add]
 exact h
theorem setCell_id {w : World} {b i : Nat} {v : Value} (h : w.cell? ⟨b, i, none⟩ = some v) : w.setCell ⟨b, i, none⟩ v = w := by
 have hh : (w.setCell ⟨b, i, none⟩ v).heap = w.heap := by
  apply Array.ext_getElem?
  intro k
  by_cases e : b = k
  ·subst e
   cases ho : w.heap[b]? with
   | none => simp [World.setCell, Array.getElem?_modify, ho]
   | some o =>
    cases o with
    | cells c t fr =>
     have hc : c[i]? = some v := by simpa [World.cell?, ho] using h
     have hs : c.setIfInBounds i v = c := by
      apply Array.ext_getElem?
      intro j
      rw [Array.getElem?_setIfInBounds]
      by_cases q : i = j
      ·subst q
       rw [if_pos rfl, hc, if_pos (Array.getElem?_eq_some_iff.1 hc).1]
      ·rw [if_neg q]
     simp [World.setCell, Array.getElem?_modify, ho, hs]
    | _ => simp [World.setCell, Array.getElem?_modify, ho]
  ·simp [World.setCell, Array.getElem?_modify, e]
 cases w
 simp only [World.setCell] at hh ⊢
 rw [hh]
set_option maxHeartbeats 1000000 in
theorem fileInC (o : Ob) (w : World) : Calls Tryz.prog 118 #[.agg #[.string o.1, .int .i64 o.2.1, .int .i64 o.2.2.1, .string o.2.2.2]] w fun e w' => e = .returned (.agg #[.string o.1, .int .i64 o.2.2.1, .string o.2.2.2]) /\ Below w.heap.size w w' := by
 obtain ⟨x0, x1, x2, x3⟩ := o
 simp only []
 go_enter Tryz.func118, Tryz.ntmps118
 go_wp2
 refine bodyPost_ret (v := .agg #[.string x0, .int .i64 x2, .string x3]) (by simp [results, Tryz.results118, go_sem]) rfl ⟨rfl, ?_⟩
 exact ((Below.refl _ _).alloc (Nat.le_refl _) _).alloc (by simp) _
def SF (L : List Fl.Ob) (w : World) (e : Ending) (w' : World) : Prop := ∃ v, e = .returned v /\ w'.ownsRow w.heap.size 34 3 v L.length (Fl.ocells L) /\ Below w.heap.size w w'
end Go.Proofs.YtgincoiehbdphaaGreatDoor.En
namespace Go.Proofs.YtgincoiehbdphaaGreatDoor.En
open Go.ChangeShapes Go.WideShapes Go.ChangeAt Go.RowKit
theorem ocell_app (l m : List Ob) (j : Nat) : ocell (l ++ m) (l.length * 4 + j) = ocell m j := by
 unfold ocell
 have e1 : (l.length * 4 + j) % 4 = j % 4 := by omega
 have e2 : (l.length * 4 + j) / 4 = l.length + j / 4 := by omega
 rw [e1, e2]
 have e3 : (l ++ m).getD (l.length + j / 4) onil = m.getD (j / 4) onil := by rw [List.getD, List.getD, List.getElem?_append_right (by omega), show l.length + j / 4 - l.length = j / 4 by omega]
 rw [e3]
theorem ocell_left (l m : List Ob) (j : Nat) (h : j < l.length * 4) : ocell (l ++ m) j = ocell l j := by
 unfold ocell
 have h3 : j / 4 < l.length := by omega
 have e3 : (l ++ m).getD (j / 4) onil = l.getD (j / 4) onil := by simp [List.getD, List.getElem?_append_left h3]
 rw [e3]
theorem ocells_app (l m : List Ob) : ocells (l ++ m) = ocells l ++ ocells m := by
 unfold ocells
 rw [List.length_append, Nat.add_mul, rowG_append]
 congr 1
 ·exact rowG_congr fun j hj => ocell_left l m j hj
 ·exact rowG_congr fun j _ => ocell_app l m j
theorem ocells_one (o : Ob) : ocells [o] = [.string o.1, .int .i64 o.2.1, .int .i64 o.2.2.1, .string o.2.2.2] := by
 unfold ocells rowG
 show (List.range 4).map (ocell [o]) = _
 rw [show List.range 4 = [0, 1, 2, 3] from rfl]
 simp [ocell]
end Go.Proofs.YtgincoiehbdphaaGreatDoor.En
namespace Go.Proofs.YtgincoiehbdphaaGreatDoor.En
open Go.ChangeShapes Go.WideShapes Go.ChangeAt Go.RowKit
theorem stepApp {P : Program} {ops : Array Oper} {o : Oper} {a : Act} {w : World} {K : Act -> World -> Prop} {Q : Exit -> Act -> World -> Prop} {E : Prop}
  (hg : o.guard = none) (s x : Operand) (t : TypeId) (hop : o.op = Op.call { callee := Callee.builtin Builtin.append, args := #[s, x], argTypes := #[t, t] })
  (base : Nat) (e : TypeId) (i : TypeInfo) (z : Value) (size bytes : Nat) (ht : P.underlying t = some (.slice e)) (hi : P.info? e = some i) (hz : i.zero = some z)
  (hsize : i.size = size) (hby : i.bytes = bytes) (hzs : z.cells.size = size) (hsz : 0 < size)
  (v : Value) (n : Nat) (xs : List Value) (hs : a.eval s = v) (hown : w.ownsRow base e size v n xs)
  (ad : Addr) (m c : Nat) (news : List Value) (hx : a.eval x = .slice (some ad) m c) (hl : news.length = m * size) (hnews : ∀ j u, news[j]? = some u -> w.cell? (ad.add j) = some u) (h1 : ∀ u ∈ news, u.oneCell' = true)
  (h63 : n + m <= maxLen) (hbytes : (n + m) * bytes <= 140737488355328) (hbase : base <= w.heap.size)
  (hK : ∀ v' w', w'.ownsRow base e size v' (n + m) (xs ++ news) -> w.grownBy w' v.ownBlock -> (v'.ownBlock = v.ownBlock \/ v'.ownBlock = some w.heap.size) -> K (a.put o.dst v') w') :
  if Region.wanted o (yielded ops a.tmps) = true then Oper.wp P o a w K Q else E := by
 have hw : Region.wanted o (yielded ops a.tmps) = true := by simp [Region.wanted, hg]
 rw [if_pos hw]
 obtain ⟨v', w', hr, h2, h3, h4, h5⟩ := run_append_own_at (P := P) w base t o.type e i z size bytes ht hi hz hsize hby hzs hsz v n xs hown ad m c news hl hnews h1 h63 hbytes hbase
 unfold Oper.wp
 simp only [execOp, hop, resolve, invoke, builtin, Sem.run_bind, Sem.run_pure, Result.andThen_ok, List.map_toArray, List.map_cons, List.map_nil, hs, hx, hr]
 exact hK v' w' h2 h3 h5
theorem litF (w : World) : (w.alloc (.cells #[] 34)).ownsRow w.heap.size 34 3 (.slice (some ⟨w.heap.size, 0, none⟩) 0 0) ([] : List Fl.Ob).length (Fl.ocells []) := World.ownsRow_lit w #[] 0 (Nat.le_refl _) (Nat.zero_le _) rfl
set_option maxRecDepth 20000 in
set_option maxHeartbeats 4000000 in
theorem l10StageC (a : Option Addr) (c : Nat) (l : List Ob) (s : Int) (w : World) (h : OB w.heap.size w a l) (hn : l.length <= 1048576) :
  Calls Tryz.prog 104 #[.slice a l.length c, .int .i64 s] w fun e w' => SF (stg l s) w e w' := by
 go_enter Tryz.func104, Tryz.ntmps104
 go_wp2
 go_loopw [5, 6] (fun v i wr => ∃ k : Nat, k <= l.length /\ i = .int .i64 k /\ wr.ownsRow w.heap.size 34 3 v (stg (l.take k) s).length (Fl.ocells (stg (l.take k) s)) /\ Below w.heap.size w wr) (fun _ i _ => l.length - (intOf i).toNat)
 case atStart => exact ⟨0, Nat.zero_le _, rfl, litF _, allocBelow _ _⟩
 case round =>
  obtain ⟨k, hk, rfl, hor, hbel⟩ := hrel
  have hsz := hbel.size
  by_cases hlt : k < l.length
  ·have qk : (k : Int) < (l.length : Int) := by omega
   obtain ⟨g, off, e, hg, d0, d1, d2, d3⟩ := (h.below hbel) k hlt
   subst e
   have hy := stg_yes l s k hlt
   have hno := stg_no l s k hlt
   have hln := stg_take_len l s k
   obtain ⟨C, hCe⟩ : ∃ C, l.getD k onil = C := ⟨_, rfl⟩
   obtain ⟨x0, x1, x2, x3⟩ := C
   rw [hCe] at d0 d1 d2 d3 hy hno
   simp only [] at d0 d1 d2 d3 hy hno
   obtain ⟨T, hT⟩ : ∃ T, stg (l.take k) s = T := ⟨_, rfl⟩
   rw [hT] at hor hy hno hln
   clear hCe hT
   by_cases hx : x1 = s
   ·subst hx
    have HY : Hid (stg (l.take (k + 1)) x1 = T ++ [fil (x0, x1, x2, x3)]) := hy rfl
    clear hy hno
    have qe : (x1 == x1) = true := by simp
    obtain ⟨i0, hi, hz0, hz1, hz2⟩ := info_parts Fl.infoObj
    have bN := allocBelow wr (.cells #[.string x0, .int .i64 x2, .string x3] 34)
    have o4 := hor.kept (grownOfBelow bN none) (blockCases _ _ fun b c1 c2 => by cases c2)
    have nw := newF wr (x0, x2, x3)
    have B4 := below_step hbel hsz bN
    have z4 := B4.size
    have B4D := B4.drew
    clear bN hor hbel
    go_wp2
    go_region_law (refine stepApp rfl (.tmp 21) (.tmp 38) 62 rfl w.heap.size 34 i0 _ 3 40 Tryz.underlying62 hi hz0 hz1 hz2 rfl (by decide) _ _ _ rfl o4.drew ⟨wr.heap.size, 0, none⟩ 1 1 (Fl.ocells [(x0, x2, x3)]) rfl rfl nw (oneF _) (by unfold maxLen; omega) (by omega) z4 ?_; intro v5 w5 o5 g5 n5)
    all_goals
    have B5 : Below w.heap.size w w5 := B4D.grown g5 z4 (fun j hj => (o4.lt j hj).1)
    have O5 : Hid (w5.ownsRow w.heap.size 34 3 v5 (T ++ [(x0, x2, x3)]).length (Fl.ocells (T ++ [(x0, x2, x3)]))) := by
     show World.ownsRow _ _ _ _ _ _ _
     rw [List.length_append, Fl.ocells_app]; exact o5
    clear o4 nw g5 n5 B4 o5 B4D
    go_wp2
    go_roundw
    case rel => exact ⟨k + 1, by omega, by go_num, by rw [HY.out]; exact O5.out, B5⟩
    case measure => first | (simp [intOf]; omega) | simp [intOf]
   ·have HN : Hid (stg (l.take (k + 1)) s = T) := hno hx
    clear hy hno
    have qe : (x1 == s) = false := by simp [hx]
    have O1 : Hid (wr.ownsRow w.heap.size 34 3 _ T.length (Fl.ocells T)) := hor
    clear hor
    go_wp2
    go_roundw
    case rel => exact ⟨k + 1, by omega, by go_num, by rw [HN.out]; exact O1.out, hbel⟩
    case measure => first | (simp [intOf]; omega) | simp [intOf]
  ·have qk : ¬ (k : Int) < (l.length : Int) := by omega
   have ek : l.take k = l := List.take_of_length_le (by omega)
   rw [ek] at hor
   have HO : Hid (World.ownsRow _ _ _ _ _ _ _) := hor
   clear hor ek
   go_wp2
   go_ret
   exact ⟨_, rfl, HO.out, hbel⟩
theorem ownMonoF {w : World} {base b : Nat} {e : TypeId} {n : Nat} {v : Value} {m : Nat} {xs : List Value} (h : w.ownsRow base e n v m xs) (hb : b <= base) : w.ownsRow b e n v m xs := by
 refine ⟨h.1, ?_⟩
 rcases h.2 with q | ⟨g, cap, cur, h1, h2, h3⟩
 ·exact .inl q
 ·exact .inr ⟨g, cap, cur, h1, by omega, h3⟩
theorem shapeK3 {w : World} {base : Nat} {e : TypeId} {s : Nat} {v : Value} {n : Nat} {xs : List Value} (h : w.ownsRow base e s v n xs) : ∃ a c, v = .slice a n c := by
 rcases h.2 with ⟨h', h0'⟩ | ⟨g, c, cur, h', _⟩
 ·exact ⟨none, 0, by rw [h', h0']⟩
 ·exact ⟨_, _, h'⟩
end Go.Proofs.YtgincoiehbdphaaGreatDoor.En
