/- Small laws on rows of files that are put together. No statement is proved here. -/
import Derived.Test.YtkgcpndnlefkoaaGreatDoorRows
import Derived.Test.YtkgcpndnlefkoaaGreatDoorLemQ
import Derived.Test.YtkgcpndnlefkoaaGreatDoorDTabQ
import Derived.Test.YtkgcpndnlefkoaaGreatDoorInQ
import Derived.Test.YtkgcpndnlefkoaaGreatDoorLFLemQ
import Derived.Test.YtkgcpndnlefkoaaGreatDoorFfCQ
import Derived.Test.YtkgcpndnlefkoaaGreatDoorDfMQ
import Derived.WalkKit
import Derived.ProofKit
import Derived.Below
import Derived.WalkSpells
import Derived.Deep.QuietTactic
import Derived.BigQuiet
import Derived.Deep.RegionWith
import Derived.Deep.RegionHeld
import Derived.Deep.RegionLaw
import Derived.Deep.CutRange
import Derived.Maps.AppendAt
import Derived.Laws.BitsLemmas
import Derived.Laws.Cover1
set_option linter.unusedVariables false
namespace Go.Proofs.YtkgcpndnlefkoaaGreatDoor.Fl
open Go.ChangeShapes Go.WideShapes Go.ChangeAt Go.RowKit
theorem stepApp {P : Program} {ops : Array Oper} {o : Oper} {a : Act} {w : World} {K : Act → World → Prop} {Q : Exit → Act → World → Prop} {E : Prop}
    (hg : o.guard = none) (s x : Operand) (t : TypeId) (hop : o.op = Op.call { callee := Callee.builtin Builtin.append, args := #[s, x], argTypes := #[t, t] })
    (base : Nat) (e : TypeId) (i : TypeInfo) (z : Value) (size bytes : Nat) (ht : P.underlying t = some (.slice e)) (hi : P.info? e = some i) (hz : i.zero = some z)
    (hsize : i.size = size) (hby : i.bytes = bytes) (hzs : z.cells.size = size) (hsz : 0 < size)
    (v : Value) (n : Nat) (xs : List Value) (hs : a.eval s = v) (hown : w.ownsRow base e size v n xs)
    (ad : Addr) (m c : Nat) (news : List Value) (hx : a.eval x = .slice (some ad) m c) (hl : news.length = m * size) (hnews : ∀ j u, news[j]? = some u → w.cell? (ad.add j) = some u) (h1 : ∀ u ∈ news, u.oneCell' = true)
    (h63 : n + m ≤ maxLen) (hbytes : (n + m) * bytes ≤ 140737488355328) (hbase : base ≤ w.heap.size)
    (hK : ∀ v' w', w'.ownsRow base e size v' (n + m) (xs ++ news) → w.grownBy w' v.ownBlock → (v'.ownBlock = v.ownBlock ∨ v'.ownBlock = some w.heap.size) → K (a.put o.dst v') w') :
    if Region.wanted o (yielded ops a.tmps) = true then Oper.wp P o a w K Q else E := by
  have hw : Region.wanted o (yielded ops a.tmps) = true := by simp [Region.wanted, hg]
  rw [if_pos hw]
  obtain ⟨v', w', hr, h2, h3, h4, h5⟩ := run_append_own_at (P := P) w base t o.type e i z size bytes ht hi hz hsize hby hzs hsz v n xs hown ad m c news hl hnews h1 h63 hbytes hbase
  unfold Oper.wp
  simp only [execOp, hop, resolve, invoke, builtin, Sem.run_bind, Sem.run_pure, Result.andThen_ok, List.map_toArray, List.map_cons, List.map_nil, hs, hx, hr]
  exact hK v' w' h2 h3 h5
theorem ownMonoF {w : World} {base b : Nat} {e : TypeId} {n : Nat} {v : Value} {m : Nat} {xs : List Value} (h : w.ownsRow base e n v m xs) (hb : b ≤ base) : w.ownsRow b e n v m xs := by
  refine ⟨h.1, ?_⟩
  rcases h.2 with q | ⟨g, cap, cur, h1, h2, h3⟩
  · exact .inl q
  · exact .inr ⟨g, cap, cur, h1, by omega, h3⟩
theorem shapeK3 {w : World} {base : Nat} {e : TypeId} {s : Nat} {v : Value} {n : Nat} {xs : List Value} (h : w.ownsRow base e s v n xs) : ∃ a c, v = .slice a n c := by
  rcases h.2 with ⟨h', h0'⟩ | ⟨g, c, cur, h', _⟩
  · exact ⟨none, 0, by rw [h', h0']⟩
  · exact ⟨_, _, h'⟩
theorem rowCap {w : World} {base : Nat} {e : TypeId} {size n : Nat} {a : Option Addr} {c m : Nat} {xs : List Value} (h : w.ownsRow base e size (.slice a m c) n xs) : n ≤ c := by
  rcases h.2 with ⟨h', h0⟩ | ⟨g, cap, cur, h', _, _, h2⟩
  · omega
  · simp only [Value.slice.injEq] at h'
    obtain ⟨_, _, rfl⟩ := h'
    first | exact h2.1 | exact h2.2.1 | exact h2.2.2.1 | omega
theorem rfBelowAt {b p : Nat} {w w' : World} {vs : List Value} (h : Rf w p vs) (hb : Below b w w') (hp : p < b) : Rf w' p vs :=
  ⟨fun k v hk => (hb.cell (p := ⟨p, k, none⟩) hp).trans (h.at_ k v hk), fun k => (hb.frozen (p := ⟨p, k, none⟩) hp).trans (h.fz k)⟩
theorem belowAt {B b : Nat} {w w' : World} {a : Option Addr} {l : List Ob} (h : OB B w a l) (hb : Below b w w') (hB : B ≤ b) : OB B w' a l := fun k hk => by
  obtain ⟨g, off, e, hg, d0, d1, d2⟩ := h k hk
  have q : g < b := by omega
  exact ⟨g, off, e, hg, (hb.cell (p := ⟨g, _, none⟩) q).trans d0, (hb.cell (p := ⟨g, _, none⟩) q).trans d1, (hb.cell (p := ⟨g, _, none⟩) q).trans d2⟩
theorem zS {w w' : World} {g o : Nat} {v : Value} (b : Below w.heap.size w w') (h : w.cell? ⟨g, o, none⟩ = some v) : w'.cell? ⟨g, o, none⟩ = some v := (Fr.ofBelow (lo := 0) (hi := 0) b).cell h (.inr (Nat.zero_le _))
theorem neSE (n : Nat) : some (n + 1) ≠ (Value.slice (some ⟨n, 0, none⟩) 0 0).ownBlock := fun e => by
  have : n + 1 = n := Option.some.inj e
  omega
theorem neTE (n : Nat) : some n ≠ (Value.slice (some ⟨n + 1, 0, none⟩) 0 0).ownBlock := fun e => by
  have : n = n + 1 := Option.some.inj e
  omega
theorem newsKeepE {w w' : World} {row : Option Nat} {g o : Nat} {xs : List Value} (hg : w.grownBy w' row) (hne : some g ≠ row) (h : ∀ j u, xs[j]? = some u → w.cell? ((⟨g, o, none⟩ : Addr).add j) = some u) : ∀ j u, xs[j]? = some u → w'.cell? ((⟨g, o, none⟩ : Addr).add j) = some u := fun j u hu => by
  have q := h j u hu
  rw [add_plain] at q ⊢
  exact hg.cell q hne
theorem newsBelowE {w w' : World} {g o : Nat} {xs : List Value} (hb : Below w.heap.size w w') (h : ∀ j u, xs[j]? = some u → w.cell? ((⟨g, o, none⟩ : Addr).add j) = some u) : ∀ j u, xs[j]? = some u → w'.cell? ((⟨g, o, none⟩ : Addr).add j) = some u := fun j u hu => by
  have q := h j u hu
  rw [add_plain] at q ⊢
  exact zS hb q
theorem zaddE {w : World} {base : Nat} {t : TypeId} {k : Nat} {v : Value} {n : Nat} {xs : List Value} (h : w.ownsRow base t k v (0 + n) ([] ++ xs)) : w.ownsRow base t k v n xs := by rw [Nat.zero_add, List.nil_append] at h; exact h
theorem ocells_atE (l : List Ob) (j : Nat) (h : j < l.length * 3) : (ocells l)[j]? = some (ocell l j) := rowG_at _ _ _ h
theorem ocells_ltE {l : List Ob} {j : Nat} {u : Value} (h : (ocells l)[j]? = some u) : j < l.length * 3 := by
  have := (List.getElem?_eq_some_iff.1 h).1
  rw [ocells_length] at this
  exact this
theorem OB.cellJ {B g off : Nat} {w : World} {l : List Ob} (h : OB B w (some ⟨g, off, none⟩) l) (j : Nat) (hj : j < l.length * 3) : w.cell? ⟨g, off + j, none⟩ = some (ocell l j) := by
  obtain ⟨g', off', e, _, c0, c1, c2⟩ := h (j / 3) (by omega)
  simp only [Option.some.injEq, Addr.mk.injEq, and_true] at e
  obtain ⟨rfl, rfl⟩ := e
  unfold ocell
  by_cases q0 : j % 3 = 0
  · rw [if_pos q0, ← c0, show off + j / 3 * 3 = off + j by omega]
  · rw [if_neg q0]
    by_cases q1 : j % 3 = 1
    · rw [if_pos q1, ← c1, show off + j / 3 * 3 + 1 = off + j by omega]
    · rw [if_neg q1, ← c2, show off + j / 3 * 3 + 2 = off + j by omega]
theorem newsTakeE {B g : Nat} {w : World} {l : List Ob} (h : OB B w (some ⟨g, 0, none⟩) l) (n : Nat) (hn : n ≤ l.length) : ∀ j u, (ocells (l.take n))[j]? = some u → w.cell? ((⟨g, 0, none⟩ : Addr).add j) = some u := by
  intro j u hu
  have hj := ocells_ltE hu
  rw [List.length_take] at hj
  have e : ocells l = ocells (l.take n) ++ ocells (l.drop n) := by rw [← ocells_app, List.take_append_drop]
  have h2 : (ocells l)[j]? = some u := by rw [e, List.getElem?_append_left (by rw [ocells_length, List.length_take]; omega)]; exact hu
  rw [add_plain, h.cellJ j (by omega), ← h2, ocells_atE l j (by omega)]
theorem newsDropE {B g : Nat} {w : World} {l : List Ob} (h : OB B w (some ⟨g, 0, none⟩) l) (n : Nat) (hn : n ≤ l.length) : ∀ j u, (ocells (l.drop n))[j]? = some u → w.cell? ((⟨g, n * 3, none⟩ : Addr).add j) = some u := by
  intro j u hu
  have hj := ocells_ltE hu
  rw [List.length_drop] at hj
  have e : ocells l = ocells (l.take n) ++ ocells (l.drop n) := by rw [← ocells_app, List.take_append_drop]
  have hl : (ocells (l.take n)).length = n * 3 := by rw [ocells_length, List.length_take]; omega
  have h2 : (ocells l)[n * 3 + j]? = some u := by rw [e, List.getElem?_append_right (by rw [hl]; omega), hl, show n * 3 + j - n * 3 = j by omega]; exact hu
  have h3 := h.cellJ (n * 3 + j) (by omega)
  rw [Nat.zero_add] at h3
  rw [add_plain, h3, ← h2, ocells_atE l _ (by omega)]
theorem oneE (l : List Ob) : ∀ u ∈ ocells l, u.oneCell' = true := by
  intro u hu
  unfold ocells rowG at hu
  obtain ⟨j, _, rfl⟩ := List.mem_map.1 hu
  unfold ocell
  split
  · rfl
  · split <;> rfl
theorem newE (w : World) (f : Ob) : ∀ j u, (ocells [f])[j]? = some u → (w.alloc (.cells #[.string f.1, .int .i64 f.2.1, .string f.2.2] 42)).cell? ((⟨w.heap.size, 0, none⟩ : Addr).add j) = some u := by
  intro j u hu
  rw [ocells_one] at hu
  have h := Rs.new w #[.string f.1, .int .i64 f.2.1, .string f.2.2] 42 j u hu
  rw [add_plain, Nat.zero_add]
  exact h
theorem litE (w : World) : (w.alloc (.cells #[] 42)).ownsRow w.heap.size 42 3 (.slice (some ⟨w.heap.size, 0, none⟩) 0 0) ([] : List Ob).length (ocells []) := World.ownsRow_lit w #[] 0 (Nat.le_refl _) (Nat.zero_le _) rfl
/-- A list with an element put in. -/
def insL (l : List Ob) (i : Nat) (E : Ob) : List Ob := l.take i ++ ([E] ++ l.drop i)
theorem insL_length (l : List Ob) (i : Nat) (E : Ob) (h : i ≤ l.length) : (insL l i E).length = l.length + 1 := by
  unfold insL
  simp only [List.length_append, List.length_take, List.length_drop, List.length_cons, List.length_nil]
  omega
/-- Files that do not fall. -/
def Sd (l : List Ob) : Prop := l.Pairwise (fun x y => ¬ plt y.1 x.1)
theorem plt_as {a b : ByteArray} (h : plt a b) : ¬ plt b a := fun k => plt_irr a (plt_tr _ _ _ h k)
theorem ple_tr {a b c : ByteArray} (h : ¬ plt b a) (k : ¬ plt c b) : ¬ plt c a := fun q => by
  rcases plt_tri a b with r | r | r
  · exact k (plt_tr _ _ _ q r)
  · subst r; exact k q
  · exact h r
theorem sd_ins {T : List Ob} {m : Nat} {f : Ob} (h : Sd T) (hm : m ≤ T.length) (hup : ∀ j, m ≤ j → j < T.length → plt f.1 (T.getD j onil).1) (hlo : 0 < m → ¬ plt f.1 (T.getD (m - 1) onil).1) : Sd (insL T m f) := by
  have hg : ∀ i j, i < j → j < T.length → ¬ plt (T.getD j onil).1 (T.getD i onil).1 := fun i j hij hj => by
    have := List.pairwise_iff_getElem.1 h i j (by omega) hj hij
    simpa [List.getD, hj, show i < T.length from by omega] using this
  have hd : ∀ y ∈ T.drop m, plt f.1 y.1 := fun y hy => by
    obtain ⟨j, hj, rfl⟩ := List.getElem_of_mem hy
    rw [List.length_drop] at hj
    have := hup (m + j) (by omega) (by omega)
    simpa [List.getD, show m + j < T.length from by omega] using this
  have ht : ∀ x ∈ T.take m, ¬ plt f.1 x.1 := fun x hx => by
    obtain ⟨j, hj, rfl⟩ := List.getElem_of_mem hx
    rw [List.length_take] at hj
    have e : (T.take m)[j] = T.getD j onil := by simp [List.getD, show j < T.length from by omega]
    rw [e]
    by_cases q : j = m - 1
    · rw [q]; exact hlo (by omega)
    · exact ple_tr (hg j (m - 1) (by omega) (by omega)) (hlo (by omega))
  have hT : T = T.take m ++ T.drop m := (List.take_append_drop m T).symm
  have hp : (T.take m ++ T.drop m).Pairwise (fun x y => ¬ plt y.1 x.1) := by rw [← hT]; exact h
  obtain ⟨p1, p2, p3⟩ := List.pairwise_append.1 hp
  unfold Sd insL
  refine List.pairwise_append.2 ⟨p1, ?_, fun x hx y hy => ?_⟩
  · exact List.pairwise_cons.2 ⟨fun y hy => plt_as (hd y hy), p2⟩
  · rcases List.mem_cons.1 hy with rfl | hy
    · exact ht x hx
    · exact p3 x hx y hy
theorem perm_ins (T : List Ob) (m : Nat) (f : Ob) : (insL T m f).Perm (T ++ [f]) := by
  unfold insL
  have e : T ++ [f] = T.take m ++ (T.drop m ++ [f]) := by rw [← List.append_assoc, List.take_append_drop]
  rw [e]
  exact List.Perm.append_left _ List.perm_append_comm
theorem gtF (a b : ByteArray) (h : plt b a) : (!Op.bytesLess a.toList b.toList && !a.toList == b.toList) = true := by
  rw [plt_no.2 (plt_as h)]
  have : (a.toList == b.toList) = false := beq_bytes_false (fun e => by subst e; exact plt_irr _ h)
  rw [this]; rfl
theorem gtN (a b : ByteArray) (h : ¬ plt b a) : (!Op.bytesLess a.toList b.toList && !a.toList == b.toList) = false := by
  rcases plt_tri a b with r | r | r
  · rw [plt_less.2 r]; rfl
  · subst r
    have : (a.toList == a.toList) = true := beq_bytes_true rfl
    rw [this]; simp
  · exact absurd r h
end Go.Proofs.YtkgcpndnlefkoaaGreatDoor.Fl
