/- The files of the entries of one stage: the contracts of filesAtStage and l10Stage, of StageFiles. No statement is proved here. -/
import Derived.Test.YtcfnkndbhpdfnaaGreatDoorWvCQ
import Derived.Test.YtcfnkndbhpdfnaaGreatDoorFmCQ
import Derived.Test.YtcfnkndbhpdfnaaGreatDoorPfCQ
namespace Go.Proofs.YtcfnkndbhpdfnaaGreatDoor.En
open Go.ChangeShapes Go.WideShapes Go.ChangeAt Go.RowKit
theorem oneF (l : List Fl.Ob) : ∀ u ∈ Fl.ocells l, u.oneCell' = true := by
 intro u hu
 unfold Fl.ocells Fl.rowG at hu
 obtain ⟨j, _, rfl⟩ := List.mem_map.1 hu
 unfold Fl.ocell
 split
 ·rfl
 ·split <;> rfl
theorem wpList_appF {w : World} {ops : Array Oper} {rest : List Oper} {o : Oper} {a : Act} {Q : Exit -> Act -> World -> Prop} (hgd : o.guard = none) (s x : Operand)
  (ho : o.op = .call { callee := .builtin .append, args := #[s, x], argTypes := #[45, 45] })
  (base : Nat) (v : Value) (S0 : List Fl.Ob) (hs : a.eval s = v) (hown : w.ownsRow base 34 3 v S0.length (Fl.ocells S0))
  (AD : Addr) (cx : Nat) (S1 : List Fl.Ob) (hx : a.eval x = .slice (some AD) S1.length cx) (hx2 : ∀ j u, (Fl.ocells S1)[j]? = some u -> w.cell? (AD.add j) = some u)
  (hb : S0.length + S1.length <= 2097152) (hbase : base <= w.heap.size)
  (h : ∀ v' w', w'.ownsRow base 34 3 v' (S0 ++ S1).length (Fl.ocells (S0 ++ S1)) -> w.grownBy w' v.ownBlock -> (v' = .slice none 0 0 ↔ v = .slice none 0 0 /\ S1.length = 0) -> (v'.ownBlock = v.ownBlock \/ v'.ownBlock = some w.heap.size) -> wpList Tryz.prog ops Q rest (a.put o.dst v') w') :
  wpList Tryz.prog ops Q (o :: rest) a w := by
 obtain ⟨i0, hi, hz0, hz1, hz2⟩ := info_parts Fl.infoObj
 refine wpList_append_own_at _ hgd s x _ ho base _ i0 _ 3 40 Tryz.underlying45 hi hz0 hz1 hz2 rfl (by decide) v _ _ hs hown AD S1.length cx (Fl.ocells S1) hx (Fl.ocells_length _) hx2 (oneF _) (by unfold maxLen; omega) (by omega) hbase ?_
 intro v' w' o1 g1 n1 k1
 refine h v' w' ?_ g1 n1 k1
 rw [List.length_append, Fl.ocells_app]; exact o1
theorem newF (w : World) (f : Fl.Ob) : ∀ j u, (Fl.ocells [f])[j]? = some u -> (w.alloc (.cells #[.string f.1, .int .i64 f.2.1, .string f.2.2] 34)).cell? ((⟨w.heap.size, 0, none⟩ : Addr).add j) = some u := by
 intro j u hu
 rw [Fl.ocells_one] at hu
 have h := Rs.new w #[.string f.1, .int .i64 f.2.1, .string f.2.2] 34 j u hu
 rw [add_plain, Nat.zero_add]
 exact h
theorem setCell_id {w : World} {b i : Nat} {v : Value} (h : w.cell? ⟨b, i, none⟩ = some v) : w.setCell ⟨b, i, none⟩ v = w := by
 have hh : (w.setCell ⟨b, i, none⟩ v).heap = w.heap := by
  apply Array.ext_getElem?
  intro k
  by_cases e : b = k
  ·subst e
   cases ho : w.heap[b]? with
   | none => simp [World.setCell, Array.getElem?_modify, ho]
   | some o =>
    cases o with
    | cells c t fr =>
     have hc : c[i]? = some v := by simpa [World.cell?, ho] using h
     have hs : c.setIfInBounds i v = c := by
      apply Array.ext_getElem?
      intro j
      rw [Array.getElem?_setIfInBounds]
      by_cases q : i = j
      ·subst q
       rw [if_pos rfl, hc, if_pos (Array.getElem?_eq_some_iff.1 hc).1]
      ·rw [if_neg q]
     simp [World.setCell, Array.getElem?_modify, ho, hs]
    | _ => simp [World.setCell, Array.getElem?_modify, ho]
  ·simp [World.setCell, Array.getElem?_modify, e]
 cases w
 simp only [World.setCell] at hh ⊢
 rw [hh]
set_option maxHeartbeats 1000000 in
theorem fileInC (o : Ob) (w : World) : Calls Tryz.prog 84 #[.agg #[.string o.1, .int .i64 o.2.1, .int .i64 o.2.2.1, .string o.2.2.2]] w fun e w' => e = .returned (.agg #[.string o.1, .int .i64 o.2.2.1, .string o.2.2.2]) /\ Below w.heap.size w w' := by
 obtain ⟨x0, x1, x2, x3⟩ := o
 simp only []
 go_enter Tryz.func84, Tryz.ntmps84
 go_wp2
 refine bodyPost_ret (v := .agg #[.string x0, .int .i64 x2, .string x3]) (by simp [results, Tryz.results84, go_sem]) rfl ⟨rfl, ?_⟩
 exact ((Below.refl _ _).alloc (Nat.le_refl _) _).alloc (by simp) _
def SF (L : List Fl.Ob) (w : World) (e : Ending) (w' : World) : Prop := ∃ v, e = .returned v /\ w'.ownsRow w.heap.size 34 3 v L.length (Fl.ocells L) /\ Below w.heap.size w w'
end Go.Proofs.YtcfnkndbhpdfnaaGreatDoor.En
namespace Go.Proofs.YtcfnkndbhpdfnaaGreatDoor.En
open Go.ChangeShapes Go.WideShapes Go.ChangeAt Go.RowKit
theorem stepApp {P : Program} {ops : Array Oper} {o : Oper} {a : Act} {w : World} {K : Act -> World -> Prop} {Q : Exit -> Act -> World -> Prop} {E : Prop}
  (hg : o.guard = none) (s x : Operand) (t : TypeId) (hop : o.op = Op.call { callee := Callee.builtin Builtin.append, args := #[s, x], argTypes := #[t, t] })
  (base : Nat) (e : TypeId) (i : TypeInfo) (z : Value) (size bytes : Nat) (ht : P.underlying t = some (.slice e)) (hi : P.info? e = some i) (hz : i.zero = some z)
  (hsize : i.size = size) (hby : i.bytes = bytes) (hzs : z.cells.size = size) (hsz : 0 < size)
  (v : Value) (n : Nat) (xs : List Value) (hs : a.eval s = v) (hown : w.ownsRow base e size v n xs)
  (ad : Addr) (m c : Nat) (news : List Value) (hx : a.eval x = .slice (some ad) m c) (hl : news.length = m * size) (hnews : ∀ j u, news[j]? = some u -> w.cell? (ad.add j) = some u) (h1 : ∀ u ∈ news, u.oneCell' = true)
  (h63 : n + m <= maxLen) (hbytes : (n + m) * bytes <= 140737488355328) (hbase : base <= w.heap.size)
  (hK : ∀ v' w', w'.ownsRow base e size v' (n + m) (xs ++ news) -> w.grownBy w' v.ownBlock -> (v'.ownBlock = v.ownBlock \/ v'.ownBlock = some w.heap.size) -> K (a.put o.dst v') w') :
  if Region.wanted o (yielded ops a.tmps) = true then Oper.wp P o a w K Q else E := by
 have hw : Region.wanted o (yielded ops a.tmps) = true := by simp [Region.wanted, hg]
 rw [if_pos hw]
 obtain ⟨v', w', hr, h2, h3, h4, h5⟩ := run_append_own_at (P := P) w base t o.type e i z size bytes ht hi hz hsize hby hzs hsz v n xs hown ad m c news hl hnews h1 h63 hbytes hbase
 unfold Oper.wp
 simp only [execOp, hop, resolve, invoke, builtin, Sem.run_bind, Sem.run_pure, Result.andThen_ok, List.map_toArray, List.map_cons, List.map_nil, hs, hx, hr]
 exact hK v' w' h2 h3 h5
theorem ownMonoF {w : World} {base b : Nat} {e : TypeId} {n : Nat} {v : Value} {m : Nat} {xs : List Value} (h : w.ownsRow base e n v m xs) (hb : b <= base) : w.ownsRow b e n v m xs := by
 refine ⟨h.1, ?_⟩
 rcases h.2 with q | ⟨g, cap, cur, h1, h2, h3⟩
 ·exact .inl q
 ·exact .inr ⟨g, cap, cur, h1, by omega, h3⟩
theorem shapeK3 {w : World} {base : Nat} {e : TypeId} {s : Nat} {v : Value} {n : Nat} {xs : List Value} (h : w.ownsRow base e s v n xs) : ∃ a c, v = .slice a n c := by
 rcases h.2 with ⟨h', h0'⟩ | ⟨g, c, cur, h', _⟩
 ·exact ⟨none, 0, by rw [h', h0']⟩
 ·exact ⟨_, _, h'⟩
end Go.Proofs.YtcfnkndbhpdfnaaGreatDoor.En
namespace Go.Proofs.YtcfnkndbhpdfnaaGreatDoor.En
open Go.ChangeShapes Go.WideShapes Go.ChangeAt Go.RowKit
theorem ocell_app (l m : List Ob) (j : Nat) : ocell (l ++ m) (l.length * 4 + j) = ocell m j := by
 unfold ocell
 have e1 : (l.length * 4 + j) % 4 = j % 4 := by omega
 have e2 : (l.length * 4 + j) / 4 = l.length + j / 4 := by omega
 rw [e1, e2]
 have e3 : (l ++ m).getD (l.length + j / 4) onil = m.getD (j / 4) onil := by rw [List.getD, List.getD, List.getElem?_append_right (by omega), show l.length + j / 4 - l.length = j / 4 by omega]
 rw [e3]
theorem ocell_left (l m : List Ob) (j : Nat) (h : j < l.length * 4) : ocell (l ++ m) j = ocell l j := by
 unfold ocell
 have h3 : j / 4 < l.length := by omega
 have e3 : (l ++ m).getD (j / 4) onil = l.getD (j / 4) onil := by simp [List.getD, List.getElem?_append_left h3]
 rw [e3]
theorem ocells_app (l m : List Ob) : ocells (l ++ m) = ocells l ++ ocells m := by
 unfold ocells
 rw [List.length_append, Nat.add_mul, rowG_append]
 congr 1
 ·exact rowG_congr fun j hj => ocell_left l m j hj
 ·exact rowG_congr fun j _ => ocell_app l m j
theorem ocells_one (o : Ob) : ocells [o] = [.string o.1, .int .i64 o.2.1, .int .i64 o.2.2.1, .string o.2.2.2] := by
 unfold ocells rowG
 show (List.range 4).map (ocell [o]) = _
 rw [show List.range 4 = [0, 1, 2, 3] from rfl]
 simp [ocell]
end Go.Proofs.YtcfnkndbhpdfnaaGreatDoor.En
