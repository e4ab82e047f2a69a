/- The contract of impl.filesBehind. No statement is proved here. -/
import Derived.Test.YtkgcpndnlefkoaaGreatDoorRows
import Derived.Test.YtkgcpndnlefkoaaGreatDoorLemQ
import Derived.Test.YtkgcpndnlefkoaaGreatDoorDTabQ
import Derived.Test.YtkgcpndnlefkoaaGreatDoorInQ
import Derived.Test.YtkgcpndnlefkoaaGreatDoorLFLemQ
import Derived.Test.YtkgcpndnlefkoaaGreatDoorFfCQ
import Derived.Test.YtkgcpndnlefkoaaGreatDoorDfMQ
import Derived.Test.YtkgcpndnlefkoaaGreatDoorDfBQ
import Derived.Test.YtkgcpndnlefkoaaGreatDoorShelfCQ
import Derived.Test.YtkgcpndnlefkoaaGreatDoorDfQQ
import Derived.Test.YtkgcpndnlefkoaaGreatDoorDfGQ
import Derived.Test.YtkgcpndnlefkoaaGreatDoorShelfQ
import Derived.Test.YtkgcpndnlefkoaaGreatDoorDfPQ
import Derived.Test.YtkgcpndnlefkoaaGreatDoorDlLQ
import Derived.Test.YtkgcpndnlefkoaaGreatDoorApMQ
import Derived.Test.YtkgcpndnlefkoaaGreatDoorApQQ
import Derived.WalkKit
import Derived.ProofKit
import Derived.Below
import Derived.WalkSpells
import Derived.Deep.QuietTactic
import Derived.BigQuiet
import Derived.Deep.RegionWith
import Derived.Deep.RegionHeld
import Derived.Deep.RegionLaw
import Derived.Deep.CutRange
import Derived.Maps.AppendAt
import Derived.Laws.BitsLemmas
import Derived.Laws.Cover1
set_option linter.unusedVariables false
namespace Go.Proofs.YtkgcpndnlefkoaaGreatDoor.Fl
open Go.ChangeShapes Go.WideShapes Go.ChangeAt Go.RowKit

theorem wpList_appP {w : World} {ops : Array Oper} {rest : List Oper} {o : Oper} {a : Act} {Q : Exit → Act → World → Prop} (hgd : o.guard = none) (s x : Operand)
    (ho : o.op = .call { callee := .builtin .append, args := #[s, x], argTypes := #[24, 24] })
    (base : Nat) (v : Value) (S0 : List Ob) (hs : a.eval s = v) (hown : w.ownsRow base 42 3 v S0.length (ocells S0))
    (ax : Option Addr) (cx B : Nat) (S1 : List Ob) (hx : a.eval x = .slice ax S1.length cx) (hx2 : OB B w ax S1) (hx3 : ax = none → cx = 0)
    (hb : S0.length + S1.length ≤ 2097152) (hbase : base ≤ w.heap.size)
    (h : ∀ v' w', w'.ownsRow base 42 3 v' (S0 ++ S1).length (ocells (S0 ++ S1)) → w.grownBy w' v.ownBlock → (v'.ownBlock = v.ownBlock ∨ v'.ownBlock = some w.heap.size) → wpList Tryz.prog ops Q rest (a.put o.dst v') w') :
    wpList Tryz.prog ops Q (o :: rest) a w := by
  obtain ⟨i0, hi, hz0, hz1, hz2⟩ := info_parts infoObj
  cases ax with
  | none =>
    have e3 : S1 = [] := by
      cases S1 with
      | nil => rfl
      | cons z zs => obtain ⟨b, off, e, _⟩ := hx2 0 (by simp); cases e
    subst e3
    have ec := hx3 rfl
    subst ec
    refine wpList_append_own_none hgd s x _ ho base _ i0 3 Tryz.underlying24 hi v _ _ hs hown hx ?_
    exact h v w (by simpa using hown) (World.grownBy.refl _ _) (.inl rfl)
  | some AD =>
    refine wpList_append_own_at _ hgd s x _ ho base _ i0 _ 3 40 Tryz.underlying24 hi hz0 hz1 hz2 rfl (by decide) v _ _ hs hown AD S1.length cx (ocells S1) hx (ocells_length _) (newsO hx2) (oneE _) (by unfold maxLen; omega) (by omega) hbase ?_
    intro v' w' o1 g1 _ e1
    refine h v' w' ?_ g1 e1
    rw [List.length_append, ocells_app]; exact o1
theorem newOne (W : World) (x0 : ByteArray) (x1 : Int) (x2 : ByteArray) : OB (W.heap.size + 1) (W.alloc (.cells #[.string x0, .int .i64 x1, .string x2] 42)) (some ⟨W.heap.size, 0, none⟩) [(x0, x1, x2)] := fun j hj => by
  have hj0 : j = 0 := by simp at hj; omega
  subst hj0
  have r := Rf.new W #[.string x0, .int .i64 x1, .string x2] 42
  exact ⟨W.heap.size, 0, rfl, Nat.lt_succ_self _, r.at_ 0 _ rfl, r.at_ 1 _ rfl, r.at_ 2 _ rfl⟩
theorem rfRow {w w' : World} {b : Nat} {vs : List Value} {row : Option Nat} (h : Rf w b vs) (hg : w.grownBy w' row) (hne : ¬ row = some b) (hlt : b < w.heap.size) : Rf w' b vs :=
  ⟨fun k v hk => (World.cell?_of_block (hg.block b hlt (fun e => hne e.symm))).trans (h.at_ k v hk), fun k => (World.frozen?_of_block (hg.block b hlt (fun e => hne e.symm))).trans (h.fz k)⟩
theorem neTrans {v v' : Value} {n q : Nat} (h : v'.ownBlock = v.ownBlock ∨ v'.ownBlock = some n) (hv : ¬ v.ownBlock = some q) (hn : q < n) : ¬ v'.ownBlock = some q := fun e => by
  rcases h with h | h
  · exact hv (h ▸ e)
  · rw [e] at h; have := Option.some.inj h; omega
theorem belowN {W : World} (n : Nat) : Below W.heap.size W (W.drewN n) := ⟨rfl, rfl, rfl, Nat.le_refl _, fun _ _ => rfl⟩
/-- Files that are left behind some. -/
theorem OB.dropS {B g off n : Nat} {w : World} {l : List Ob} (h : OB B w (some ⟨g, off, none⟩) l) : OB B w (some ⟨g, off + n * 3, none⟩) (l.drop n) := fun k hk => by
  rw [List.length_drop] at hk
  obtain ⟨g', off', e, hg, c0, c1, c2⟩ := h (n + k) (by omega)
  simp only [Option.some.injEq, Addr.mk.injEq, and_true] at e
  obtain ⟨rfl, rfl⟩ := e
  have eg : (l.drop n).getD k onil = l.getD (n + k) onil := by simp [List.getD]
  rw [Nat.add_mul, ← Nat.add_assoc] at c0 c1 c2
  exact ⟨g, off + n * 3, rfl, hg, by rw [eg]; exact c0, by rw [eg]; exact c1, by rw [eg]; exact c2⟩
theorem notQ {w : World} {base : Nat} {t : TypeId} {K n q : Nat} {v : Value} {vals : List Value} (h : w.ownsRow base t K v n vals) (hq : w.heap.size ≤ q) : ¬ v.ownBlock = some q := fun e => by have := (h.lt q e).2; omega
set_option maxRecDepth 20000 in
set_option maxHeartbeats 16000000 in
theorem filesBehindC (g0 : Nat) (b : Option Addr) (ca cb : Nat) (la : List Ob) (D : List Dl.Ob) (w : World) (ha : OB w.heap.size w (some ⟨g0, 0, none⟩) la) (hb : Dl.OB w.heap.size w b D) (hca : la.length ≤ ca)
    (hr : Rise la) (nl : ∀ f ∈ la, ¬ f = onil) (hd : D.Pairwise (fun x y => plt x.1 y.1)) (hf : ∀ d ∈ D, fa la d.1 = d.2.1) (hn : la.length + D.length ≤ 1048576) :
    Calls Tryz.prog 21 #[.slice (some ⟨g0, 0, none⟩) la.length ca, .slice b D.length cb] w fun e w' => SF (fb la D) w e w' := by
  have hEat : ∀ k, k < D.length → ∀ n M, FB la D n k M → n < la.length → Op.bytesLess (la.getD n onil).1.toList (D.getD k Dl.onil).1.toList = true → FB la D (n + 1) k (M ++ [la.getD n onil]) := fun k hk n M h h1 h2 => h.eat hd h1 hk h2
  have hPut : ∀ k, k < D.length → ∀ n M, FB la D n k M → (n < la.length → Op.bytesLess (la.getD n onil).1.toList (D.getD k Dl.onil).1.toList = false) → (¬ (D.getD k Dl.onil).2.1 = onil → n < la.length) ∧ FB la D (n + if (D.getD k Dl.onil).2.1 = onil then 0 else 1) (k + 1) (M ++ nw (D.getD k Dl.onil)) := fun k hk n M h h1 => h.put hr nl hd hk h1
  have hEnd : ∀ n M, FB la D n D.length M → Hid (M ++ la.drop n = fb la D) := fun n M h => h.stop (Nat.le_refl _)
  have hLen : ∀ n k M, FB la D n k M → n ≤ la.length ∧ M.length ≤ n + k := fun n k M h => ⟨h.hn, h.len⟩
  have hSt : FB la D 0 0 [] := FB.start hf
  obtain ⟨PF, hPF⟩ : ∃ P, FB la D = P := ⟨_, rfl⟩
  obtain ⟨RS, hRS⟩ : ∃ P, fb la D = P := ⟨_, rfl⟩
  simp only [hPF, hRS] at hEat hPut hEnd hLen hSt ⊢
  clear hPF hRS hr nl hd hf
  go_enter Tryz.func21, Tryz.ntmps21
  go_wp2
  go_loopw [11, 5, 6] (fun i m n wr => ∃ (k nx : Nat) (M : List Ob), k ≤ D.length ∧ i = .int .i64 k ∧ n = .int .i64 nx ∧ wr.ownsRow w.heap.size 42 3 m M.length (ocells M) ∧ Below w.heap.size w wr ∧ PF nx k M) (fun i _ _ _ => D.length - (intOf i).toNat)
  case atStart => exact ⟨0, 0, [], Nat.zero_le _, rfl, rfl, ⟨rfl, .inl ⟨rfl, rfl⟩⟩, Below.refl _ _, hSt⟩
  case round =>
    obtain ⟨k, nx, M, hk, rfl, rfl, hor, hbel, hF⟩ := hrel
    have hsz := hbel.size
    clear hSt
    obtain ⟨V, rfl⟩ : ∃ V, V = wr := ⟨_, rfl⟩
    by_cases hlt : k < D.length
    · have q0 : (k : Int) < (D.length : Int) := by omega
      obtain ⟨g, off, e, hg, d0, d1, d2, d3, d4, d5, d6⟩ := (hb.below hbel) k hlt
      subst e
      replace hEat := hEat k hlt
      replace hPut := hPut k hlt
      have hLk := fun n M => hLen n k M
      obtain ⟨C, hC⟩ : ∃ C, D.getD k Dl.onil = C := ⟨_, rfl⟩
      obtain ⟨p, ⟨f0, f1, f2⟩, ⟨g0', g1, g2⟩⟩ := C
      rw [hC] at d0 d1 d2 d3 d4 d5 d6
      simp only [hC] at hEat hPut d0 d1 d2 d3 d4 d5 d6
      obtain ⟨q, hq⟩ : ∃ q, V.heap.size = q := ⟨_, rfl⟩
      have bW := allocBelow V (.cells #[.string p, .string f0, .int .i64 f1, .string f2, .string g0', .int .i64 g1, .string g2] 47)
      have r1 := Rf.new V #[.string p, .string f0, .int .i64 f1, .string f2, .string g0', .int .i64 g1, .string g2] 47
      have z1 : (V.alloc (.cells #[.string p, .string f0, .int .i64 f1, .string f2, .string g0', .int .i64 g1, .string g2] 47)).heap.size = q + 1 := by rw [World.size_alloc, hq]
      have B1 : Below w.heap.size w (V.alloc (.cells #[.string p, .string f0, .int .i64 f1, .string f2, .string g0', .int .i64 g1, .string g2] 47)) := hbel.trans (bW.mono hsz)
      have o1 := hor.kept (grownOfBelow bW none) (blockCases _ _ fun b c1 c2 => by cases c2)
      have ne1 := notQ hor (Nat.le_of_eq hq)
      have zq1 : q < (V.alloc (.cells #[.string p, .string f0, .int .i64 f1, .string f2, .string g0', .int .i64 g1, .string g2] 47)).heap.size := by rw [z1]; exact Nat.lt_succ_self _
      rw [hq] at r1
      have HC9 : ∀ nx M, PF nx k M → (nx < la.length → Op.bytesLess (la.getD nx onil).1.toList p.toList = false) → Hid (PF (nx + if ((f0, f1, f2) : Ob) = onil then 0 else 1) (k + 1) (M ++ nw (p, (f0, f1, f2), (g0', g1, g2)))) := fun nx M h1 h2 => (hPut nx M h1 h2).2
      have HC8 : ∀ nx M, PF nx k M → (nx < la.length → Op.bytesLess (la.getD nx onil).1.toList p.toList = false) → ¬ ((f0, f1, f2) : Ob) = onil → nx < la.length := fun nx M h1 h2 => (hPut nx M h1 h2).1
      clear hC bW hPut z1
      go_wp2
      go_loopw [5, 6] (fun m n wr => ∃ (nx : Nat) (M : List Ob), n = .int .i64 nx ∧ wr.ownsRow w.heap.size 42 3 m M.length (ocells M) ∧ Below w.heap.size w wr ∧ PF nx k M ∧ Rf wr q [.string p, .string f0, .int .i64 f1, .string f2, .string g0', .int .i64 g1, .string g2] ∧ q < wr.heap.size ∧ ¬ m.ownBlock = some q) (fun _ n _ => la.length - (intOf n).toNat)
      case atStart => exact ⟨nx, M, rfl, o1, B1, hF, r1, zq1, ne1⟩
      case round =>
        clear hF hor hbel d0 d1 d2 d3 d4 d5 d6 o1 B1 r1 zq1 ne1 hsz
        obtain ⟨nx, M, rfl, hor, hbel, hF, rD, zq, nn⟩ := hrel
        have hsz := hbel.size
        obtain ⟨hn1, hM1⟩ := hLk nx M hF
        have m0 := rD.at_ 0 _ rfl
        by_cases hlt2 : nx < la.length
        · have q1 : (nx : Int) < (la.length : Int) := by omega
          obtain ⟨g', off', e', hg', c0, c1, c2⟩ := (ha.below hbel) nx hlt2
          simp only [Option.some.injEq, Addr.mk.injEq, and_true] at e'
          obtain ⟨rfl, rfl⟩ := e'
          simp only [Nat.zero_add] at c0 c1 c2
          obtain ⟨X, hX⟩ : ∃ X, la.getD nx onil = X := ⟨_, rfl⟩
          obtain ⟨x0, x1, x2⟩ := X
          rw [hX] at c0 c1 c2
          have hE := hEat nx M hF hlt2
          have h9 := HC9 nx M hF
          have h8 := HC8 nx M hF
          simp only [hX] at hE h9 h8 c0 c1 c2
          cases hle : Op.bytesLess x0.toList p.toList with
          | true =>
            have HE : Hid (PF (nx + 1) k (M ++ [(x0, x1, x2)])) := hE hle
            clear h9 h8 hE HC8 HC9 hEat hEnd hF ha hb hca hX
            go_wp2
            go_quiet (fail)
            obtain ⟨WD, hWD⟩ : ∃ W, wr.drewN nq = W := ⟨_, rfl⟩
            have bD : Below wr.heap.size wr WD := by rw [← hWD]; exact belowN _
            have HWD : Hid (wr.drewN nq = WD) := hWD
            have oD := hor.kept (grownOfBelow bD none) (blockCases _ _ fun b c1 c2 => by cases c2)
            have BD : Below w.heap.size w WD := hbel.trans (bD.mono hsz)
            have rD2 := rD.below zq bD
            have zD : q < WD.heap.size := Nat.lt_of_lt_of_le zq bD.size
            rw [hWD]
            replace c0 := (bD.cell (p := ⟨g0, nx * 3, none⟩) (show g0 < _ by omega)).trans c0
            replace c1 := (bD.cell (p := ⟨g0, nx * 3 + 1, none⟩) (show g0 < _ by omega)).trans c1
            replace c2 := (bD.cell (p := ⟨g0, nx * 3 + 2, none⟩) (show g0 < _ by omega)).trans c2
            clear hbel hor rD bD m0 hWD
            have bN := allocBelow WD (.cells #[.string x0, .int .i64 x1, .string x2] 42)
            have zA := BD.size
            have oN := oD.kept (grownOfBelow bN none) (blockCases _ _ fun b c1 c2 => by cases c2)
            have rN := rD2.below zD bN
            have zN : q < (WD.alloc (.cells #[.string x0, .int .i64 x1, .string x2] 42)).heap.size := Nat.lt_of_lt_of_le zD bN.size
            have sN : (WD.alloc (.cells #[.string x0, .int .i64 x1, .string x2] 42)).heap.size = WD.heap.size + 1 := World.size_alloc _ _
            have nw1 : OB (WD.heap.size + 1) (WD.alloc (.cells #[.string x0, .int .i64 x1, .string x2] 42)) (some ⟨WD.heap.size, 0, none⟩) [(x0, x1, x2)] := newOne WD x0 x1 x2
            have HBN : Hid (Below w.heap.size w (WD.alloc (.cells #[.string x0, .int .i64 x1, .string x2] 42))) := BD.trans (bN.mono zA)
            clear bN oD BD rD2
            go_wp2_with (at_builtin; refine stopMark ?_)
            change wpList _ _ _ _ _ _
            refine wpList_appP rfl (.tmp 29) (.tmp 34) rfl w.heap.size _ M rfl oN (some ⟨WD.heap.size, 0, none⟩) 1 _ [(x0, x1, x2)] rfl nw1 (fun h => by cases h) (by simp; omega) (by omega) ?_
            intro v5 w5 o5 g5 e5
            have B5 : Hid (Below w.heap.size w w5) := HBN.out.grown g5 (by omega) (fun j hj => (oN.lt j hj).1)
            have O5 : Hid (w5.ownsRow w.heap.size 42 3 v5 (M ++ [(x0, x1, x2)]).length (ocells (M ++ [(x0, x1, x2)]))) := o5
            have R5 := rfRow rN g5 nn zN
            have z5 : q < w5.heap.size := Nat.lt_of_lt_of_le zN g5.size
            have n5 := neTrans e5 nn (by omega)
            clear oN nw1 g5 HBN o5 e5 rN
            go_wp2
            go_roundw
            case rel => exact ⟨nx + 1, M ++ [(x0, x1, x2)], by go_num, O5.out, B5.out, HE.out, R5, z5, n5⟩
            case measure => first | (simp [intOf]; omega) | simp [intOf]
          | false =>
            replace h9 := h9 (fun _ => hle)
            replace h8 := h8 (fun _ => hle)
            clear hE HC8 HC9 hEat hEnd hF ha hb hca hX
            go_wp2
            go_quiet (fail)
            obtain ⟨WD, hWD⟩ : ∃ W, wr.drewN nq = W := ⟨_, rfl⟩
            have bD : Below wr.heap.size wr WD := by rw [← hWD]; exact belowN _
            have HWD : Hid (wr.drewN nq = WD) := hWD
            have oD := hor.kept (grownOfBelow bD none) (blockCases _ _ fun b c1 c2 => by cases c2)
            have BD : Below w.heap.size w WD := hbel.trans (bD.mono hsz)
            have rD2 := rD.below zq bD
            have zD : q < WD.heap.size := Nat.lt_of_lt_of_le zq bD.size
            rw [hWD]
            clear hbel hor rD bD m0 hWD c0 c1 c2
            have m0 := rD2.at_ 0 _ rfl
            have m1 := rD2.at_ 1 _ rfl
            have m2 := rD2.at_ 2 _ rfl
            have m3 := rD2.at_ 3 _ rfl
            have m4 := rD2.at_ 4 _ rfl
            have m5 := rD2.at_ 5 _ rfl
            have m6 := rD2.at_ 6 _ rfl
            by_cases hO : ((f0, f1, f2) : Ob) = onil
            · have fO := fun w => ef_nil hO w
              rw [if_pos hO] at h9
              clear hO h8
              by_cases hN : ((g0', g1, g2) : Ob) = onil
              · have fN := fun w => ef_nil hN w
                have eN : nw (p, (f0, f1, f2), (g0', g1, g2)) = [] := if_pos hN
                rw [eN, List.append_nil] at h9
                clear hN eN
                go_wp2
                go_roundw
                case rel => exact ⟨k + 1, nx + 0, M, by omega, by go_num, by go_num, oD, BD, h9.out⟩
                case measure => first | (simp [intOf]; omega) | simp [intOf]
              · have fN := fun w => ef_some hN w
                have eN : nw (p, (f0, f1, f2), (g0', g1, g2)) = [(g0', g1, g2)] := if_neg hN
                rw [eN] at h9
                clear hN eN
                have bN := allocBelow WD (.cells #[.string g0', .int .i64 g1, .string g2] 42)
                have zA := BD.size
                have oN := oD.kept (grownOfBelow bN none) (blockCases _ _ fun b c1 c2 => by cases c2)
                have rN := rD2.below zD bN
                have zN : q < (WD.alloc (.cells #[.string g0', .int .i64 g1, .string g2] 42)).heap.size := Nat.lt_of_lt_of_le zD bN.size
                have sN : (WD.alloc (.cells #[.string g0', .int .i64 g1, .string g2] 42)).heap.size = WD.heap.size + 1 := World.size_alloc _ _
                have nw1 : OB (WD.heap.size + 1) (WD.alloc (.cells #[.string g0', .int .i64 g1, .string g2] 42)) (some ⟨WD.heap.size, 0, none⟩) [(g0', g1, g2)] := newOne WD g0' g1 g2
                have HBN : Hid (Below w.heap.size w (WD.alloc (.cells #[.string g0', .int .i64 g1, .string g2] 42))) := BD.trans (bN.mono zA)
                clear bN oD BD rD2
                go_wp2_with (at_builtin; refine stopMark ?_)
                change wpList _ _ _ _ _ _
                refine wpList_appP rfl (.tmp 48) (.tmp 51) rfl w.heap.size _ M rfl oN (some ⟨WD.heap.size, 0, none⟩) 1 _ [(g0', g1, g2)] rfl nw1 (fun h => by cases h) (by simp; omega) (by omega) ?_
                intro v5 w5 o5 g5 e5
                have B5 : Hid (Below w.heap.size w w5) := HBN.out.grown g5 (by omega) (fun j hj => (oN.lt j hj).1)
                have O5 : Hid (w5.ownsRow w.heap.size 42 3 v5 (M ++ [(g0', g1, g2)]).length (ocells (M ++ [(g0', g1, g2)]))) := o5
                have R5 := rfRow rN g5 nn zN
                have z5 : q < w5.heap.size := Nat.lt_of_lt_of_le zN g5.size
                have n5 := neTrans e5 nn (by omega)
                clear oN nw1 g5 HBN o5 e5 rN
                go_wp2
                go_roundw
                case rel => exact ⟨k + 1, nx + 0, M ++ [(g0', g1, g2)], by omega, by go_num, by go_num, O5.out, B5.out, h9.out⟩
                case measure => first | (simp [intOf]; omega) | simp [intOf]
            · have fO := fun w => ef_some hO w
              rw [if_neg hO] at h9
              have hlt3 := h8 hO
              clear hO h8
              by_cases hN : ((g0', g1, g2) : Ob) = onil
              · have fN := fun w => ef_nil hN w
                have eN : nw (p, (f0, f1, f2), (g0', g1, g2)) = [] := if_pos hN
                rw [eN, List.append_nil] at h9
                clear hN eN
                go_wp2
                go_roundw
                case rel => exact ⟨k + 1, nx + 1, M, by omega, by go_num, by go_num, oD, BD, h9.out⟩
                case measure => first | (simp [intOf]; omega) | simp [intOf]
              · have fN := fun w => ef_some hN w
                have eN : nw (p, (f0, f1, f2), (g0', g1, g2)) = [(g0', g1, g2)] := if_neg hN
                rw [eN] at h9
                clear hN eN
                have bN := allocBelow WD (.cells #[.string g0', .int .i64 g1, .string g2] 42)
                have zA := BD.size
                have oN := oD.kept (grownOfBelow bN none) (blockCases _ _ fun b c1 c2 => by cases c2)
                have rN := rD2.below zD bN
                have zN : q < (WD.alloc (.cells #[.string g0', .int .i64 g1, .string g2] 42)).heap.size := Nat.lt_of_lt_of_le zD bN.size
                have sN : (WD.alloc (.cells #[.string g0', .int .i64 g1, .string g2] 42)).heap.size = WD.heap.size + 1 := World.size_alloc _ _
                have nw1 : OB (WD.heap.size + 1) (WD.alloc (.cells #[.string g0', .int .i64 g1, .string g2] 42)) (some ⟨WD.heap.size, 0, none⟩) [(g0', g1, g2)] := newOne WD g0' g1 g2
                have HBN : Hid (Below w.heap.size w (WD.alloc (.cells #[.string g0', .int .i64 g1, .string g2] 42))) := BD.trans (bN.mono zA)
                clear bN oD BD rD2
                go_wp2_with (at_builtin; refine stopMark ?_)
                change wpList _ _ _ _ _ _
                refine wpList_appP rfl (.tmp 48) (.tmp 51) rfl w.heap.size _ M rfl oN (some ⟨WD.heap.size, 0, none⟩) 1 _ [(g0', g1, g2)] rfl nw1 (fun h => by cases h) (by simp; omega) (by omega) ?_
                intro v5 w5 o5 g5 e5
                have B5 : Hid (Below w.heap.size w w5) := HBN.out.grown g5 (by omega) (fun j hj => (oN.lt j hj).1)
                have O5 : Hid (w5.ownsRow w.heap.size 42 3 v5 (M ++ [(g0', g1, g2)]).length (ocells (M ++ [(g0', g1, g2)]))) := o5
                have R5 := rfRow rN g5 nn zN
                have z5 : q < w5.heap.size := Nat.lt_of_lt_of_le zN g5.size
                have n5 := neTrans e5 nn (by omega)
                clear oN nw1 g5 HBN o5 e5 rN
                go_wp2
                go_roundw
                case rel => exact ⟨k + 1, nx + 1, M ++ [(g0', g1, g2)], by omega, by go_num, by go_num, O5.out, B5.out, h9.out⟩
                case measure => first | (simp [intOf]; omega) | simp [intOf]
        · have q1 : ¬ (nx : Int) < (la.length : Int) := by omega
          have h9 := HC9 nx M hF (fun c => absurd c hlt2)
          have h8 := HC8 nx M hF (fun c => absurd c hlt2)
          clear HC8 HC9 hEat hEnd hF ha hb hca
          go_wp2
          go_quiet (fail)
          obtain ⟨WD, hWD⟩ : ∃ W, wr.drewN nq = W := ⟨_, rfl⟩
          have bD : Below wr.heap.size wr WD := by rw [← hWD]; exact belowN _
          have HWD : Hid (wr.drewN nq = WD) := hWD
          have oD := hor.kept (grownOfBelow bD none) (blockCases _ _ fun b c1 c2 => by cases c2)
          have BD : Below w.heap.size w WD := hbel.trans (bD.mono hsz)
          have rD2 := rD.below zq bD
          have zD : q < WD.heap.size := Nat.lt_of_lt_of_le zq bD.size
          rw [hWD]
          clear hbel hor rD bD m0 hWD
          have m0 := rD2.at_ 0 _ rfl
          have m1 := rD2.at_ 1 _ rfl
          have m2 := rD2.at_ 2 _ rfl
          have m3 := rD2.at_ 3 _ rfl
          have m4 := rD2.at_ 4 _ rfl
          have m5 := rD2.at_ 5 _ rfl
          have m6 := rD2.at_ 6 _ rfl
          by_cases hO : ((f0, f1, f2) : Ob) = onil
          · have fO := fun w => ef_nil hO w
            rw [if_pos hO] at h9
            clear hO h8
            by_cases hN : ((g0', g1, g2) : Ob) = onil
            · have fN := fun w => ef_nil hN w
              have eN : nw (p, (f0, f1, f2), (g0', g1, g2)) = [] := if_pos hN
              rw [eN, List.append_nil] at h9
              clear hN eN
              go_wp2
              go_roundw
              case rel => exact ⟨k + 1, nx + 0, M, by omega, by go_num, by go_num, oD, BD, h9.out⟩
              case measure => first | (simp [intOf]; omega) | simp [intOf]
            · have fN := fun w => ef_some hN w
              have eN : nw (p, (f0, f1, f2), (g0', g1, g2)) = [(g0', g1, g2)] := if_neg hN
              rw [eN] at h9
              clear hN eN
              have bN := allocBelow WD (.cells #[.string g0', .int .i64 g1, .string g2] 42)
              have zA := BD.size
              have oN := oD.kept (grownOfBelow bN none) (blockCases _ _ fun b c1 c2 => by cases c2)
              have rN := rD2.below zD bN
              have zN : q < (WD.alloc (.cells #[.string g0', .int .i64 g1, .string g2] 42)).heap.size := Nat.lt_of_lt_of_le zD bN.size
              have sN : (WD.alloc (.cells #[.string g0', .int .i64 g1, .string g2] 42)).heap.size = WD.heap.size + 1 := World.size_alloc _ _
              have nw1 : OB (WD.heap.size + 1) (WD.alloc (.cells #[.string g0', .int .i64 g1, .string g2] 42)) (some ⟨WD.heap.size, 0, none⟩) [(g0', g1, g2)] := newOne WD g0' g1 g2
              have HBN : Hid (Below w.heap.size w (WD.alloc (.cells #[.string g0', .int .i64 g1, .string g2] 42))) := BD.trans (bN.mono zA)
              clear bN oD BD rD2
              go_wp2_with (at_builtin; refine stopMark ?_)
              change wpList _ _ _ _ _ _
              refine wpList_appP rfl (.tmp 48) (.tmp 51) rfl w.heap.size _ M rfl oN (some ⟨WD.heap.size, 0, none⟩) 1 _ [(g0', g1, g2)] rfl nw1 (fun h => by cases h) (by simp; omega) (by omega) ?_
              intro v5 w5 o5 g5 e5
              have B5 : Hid (Below w.heap.size w w5) := HBN.out.grown g5 (by omega) (fun j hj => (oN.lt j hj).1)
              have O5 : Hid (w5.ownsRow w.heap.size 42 3 v5 (M ++ [(g0', g1, g2)]).length (ocells (M ++ [(g0', g1, g2)]))) := o5
              have R5 := rfRow rN g5 nn zN
              have z5 : q < w5.heap.size := Nat.lt_of_lt_of_le zN g5.size
              have n5 := neTrans e5 nn (by omega)
              clear oN nw1 g5 HBN o5 e5 rN
              go_wp2
              go_roundw
              case rel => exact ⟨k + 1, nx + 0, M ++ [(g0', g1, g2)], by omega, by go_num, by go_num, O5.out, B5.out, h9.out⟩
              case measure => first | (simp [intOf]; omega) | simp [intOf]
          · exact absurd (h8 hO) hlt2
    · have q0 : ¬ (k : Int) < (D.length : Int) := by omega
      have ek : k = D.length := by omega
      subst ek
      have hE := hEnd nx M hF
      obtain ⟨hn1, hM1⟩ := hLen _ _ M hF
      have O2 := (ha.below hbel).dropS (n := nx)
      clear hEat hPut hEnd hLen hF hb
      rw [Nat.zero_add] at O2
      have dl : (la.drop nx).length = la.length - nx := List.length_drop
      have hz : w.heap.size ≤ V.heap.size := hsz
      have HB : Hid (Below w.heap.size w V) := hbel
      have HE : Hid (M ++ la.drop nx = RS) := hE
      clear hE hbel
      by_cases hcn : ca = nx
      · have O3 : OB w.heap.size V (some ⟨g0, 0, none⟩) (la.drop nx) := fun j hj => by rw [dl] at hj; omega
        have q1 : (nx : Int) ≤ (ca : Int) := by omega
        have q2 : (nx : Int) ≤ (la.length : Int) := by omega
        go_wp2_with (at_builtin; refine stopMark ?_)
        change wpList _ _ _ _ _ _
        refine wpList_appO rfl (.tmp 54) (.tmp 57) rfl w.heap.size _ M rfl hor (some ⟨g0, 0, none⟩) _ _ (la.drop nx) (by rw [dl]; rfl) O3 (fun h => by cases h) (by rw [dl]; omega) hz ?_
        intro v5 w5 o5 g5
        have B5 : Hid (Below w.heap.size w w5) := HB.out.grown g5 hz (fun j hj => (hor.lt j hj).1)
        rw [HE.out] at o5
        have O5 : Hid (World.ownsRow _ _ _ _ _ _ _) := o5
        clear o5 g5 hor O3 O2 HE HB
        go_wp2
        go_ret
        exact ⟨_, rfl, O5.out, B5.out⟩
      · have q1 : (nx : Int) ≤ (ca : Int) := by omega
        have q2 : (nx : Int) ≤ (la.length : Int) := by omega
        go_wp2_with (at_builtin; refine stopMark ?_)
        change wpList _ _ _ _ _ _
        refine wpList_appO rfl (.tmp 54) (.tmp 57) rfl w.heap.size _ M rfl hor (some ⟨g0, nx * 3, none⟩) _ _ (la.drop nx) (by rw [dl]; rfl) O2 (fun h => by cases h) (by rw [dl]; omega) hz ?_
        intro v5 w5 o5 g5
        have B5 : Hid (Below w.heap.size w w5) := HB.out.grown g5 hz (fun j hj => (hor.lt j hj).1)
        rw [HE.out] at o5
        have O5 : Hid (World.ownsRow _ _ _ _ _ _ _) := o5
        clear o5 g5 hor O2 HE HB
        go_wp2
        go_ret
        exact ⟨_, rfl, O5.out, B5.out⟩
end Go.Proofs.YtkgcpndnlefkoaaGreatDoor.Fl
