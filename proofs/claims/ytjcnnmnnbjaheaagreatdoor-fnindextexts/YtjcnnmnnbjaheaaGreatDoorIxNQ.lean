/- Indexes and files that have no fault rise. Plain mathematics. No statement is proved here. -/
import Derived.Test.YtjcnnmnnbjaheaaGreatDoorRows
import Derived.Test.YtjcnnmnnbjaheaaGreatDoorLemQ
import Derived.Test.YtjcnnmnnbjaheaaGreatDoorDTabQ
import Derived.Test.YtjcnnmnnbjaheaaGreatDoorFlLQ
import Derived.Test.YtjcnnmnnbjaheaaGreatDoorFmCQ
import Derived.Test.YtjcnnmnnbjaheaaGreatDoorHkTQ
import Derived.Test.YtjcnnmnnbjaheaaGreatDoorIxMQ
import Derived.Test.YtjcnnmnnbjaheaaGreatDoorShelfQ
import Derived.Test.YtjcnnmnnbjaheaaGreatDoorFfIQ
import Derived.Test.YtjcnnmnnbjaheaaGreatDoorIxOQ
import Derived.Test.YtjcnnmnnbjaheaaGreatDoorSgCQ
import Derived.WalkKit
import Derived.ProofKit
import Derived.Below
import Derived.WalkSpells
import Derived.Deep.QuietTactic
import Derived.BigQuiet
import Derived.Deep.RegionWith
import Derived.Deep.RegionHeld
import Derived.Deep.CutRange
import Derived.Maps.AppendAt
import Derived.Laws.Cover1
namespace Go.Proofs.YtjcnnmnnbjaheaaGreatDoor.En
open Go.ChangeShapes Go.WideShapes Go.ChangeAt Go.RowKit

theorem byL_irr : ∀ a : List UInt8, Op.bytesLess a a = false
  | [] => rfl
  | x :: a => by
    have ih := byL_irr a
    unfold Op.bytesLess
    have h1 : ¬ x < x := fun h => by have : x.toNat < x.toNat := h; omega
    simp [h1, ih]
theorem byL_trans : ∀ a b c : List UInt8, Op.bytesLess a b = true → Op.bytesLess b c = true → Op.bytesLess a c = true
  | [], [], _, h, _ => by simp [Op.bytesLess] at h
  | [], _ :: _, [], _, h => by simp [Op.bytesLess] at h
  | [], _ :: _, _ :: _, _, _ => rfl
  | _ :: _, [], _, h, _ => by simp [Op.bytesLess] at h
  | _ :: _, _ :: _, [], _, h => by simp [Op.bytesLess] at h
  | x :: a, y :: b, z :: c, h1, h2 => by
    have ih := byL_trans a b c
    unfold Op.bytesLess at h1 h2 ⊢
    by_cases xy : x < y
    · by_cases yz : y < z
      · have xz : x < z := by have a1 : x.toNat < y.toNat := xy; have a2 : y.toNat < z.toNat := yz; exact (show x.toNat < z.toNat by omega)
        simp [xz]
      · by_cases e : y = z
        · subst e; simp [xy]
        · simp [yz, e] at h2
    · by_cases e : x = y
      · subst e
        by_cases yz : x < z
        · simp [yz]
        · by_cases e2 : x = z
          · subst e2
            simp [xy] at h1 h2 ⊢
            exact ih h1 h2
          · simp [yz, e2] at h2
      · simp [xy, e] at h1
theorem cmL_anti : ∀ a b : List UInt8, Lib.compareBytes a b = 1 → Lib.compareBytes b a = -1
  | [], [], h => by simp [Lib.compareBytes] at h
  | [], _ :: _, h => by simp [Lib.compareBytes] at h
  | _ :: _, [], _ => rfl
  | x :: a, y :: b, h => by
    have ih := cmL_anti a b
    unfold Lib.compareBytes at h ⊢
    by_cases h1 : x < y
    · simp [h1] at h
    · by_cases h2 : y < x
      · simp [h2]
      · simp [h1, h2] at h ⊢
        exact ih h
theorem cm_anti (a b : ByteArray) (h : cmB a b = 1) : cmB b a = -1 := cmL_anti _ _ h
theorem cmB_lt {a b : ByteArray} : cmB a b < 0 ↔ Op.bytesLess a.toList b.toList = true := by
  rcases cmB_cases a b with ⟨h1, h2, _⟩ | ⟨h1, h2⟩ | ⟨h1, h2, _⟩
  · rw [h1, h2]; simp
  · rw [h1, h2, byL_irr]; simp
  · rw [h1, h2]; simp
theorem cmB_trans {a b c : ByteArray} (h1 : cmB a b < 0) (h2 : cmB b c < 0) : cmB a c < 0 := by
  rw [cmB_lt] at *
  exact byL_trans _ _ _ h1 h2
theorem cmB_zero {a b : ByteArray} : cmB a b = 0 ↔ a = b := by
  rcases cmB_cases a b with ⟨h1, _, h3⟩ | ⟨h1, h2⟩ | ⟨h1, _, h3⟩
  · refine ⟨fun h => by omega, fun h => ?_⟩
    rw [beq_bytes_true h] at h3; cases h3
  · exact ⟨fun _ => h2, fun _ => h1⟩
  · refine ⟨fun h => by omega, fun h => ?_⟩
    rw [beq_bytes_true h] at h3; cases h3
theorem cmI_lt {a b : Int} : cmI a b < 0 ↔ a < b := by
  unfold cmI
  by_cases h : a < b
  · simp [h]
  · rw [if_neg h]
    by_cases h2 : b < a
    · rw [if_pos h2]; omega
    · rw [if_neg h2]; omega
theorem cmE_lt {a b : Ob} : cmE a b < 0 ↔ cmB a.1 b.1 < 0 ∨ (a.1 = b.1 ∧ a.2.1 < b.2.1) := by
  unfold cmE
  by_cases h : cmB a.1 b.1 = 0
  · rw [if_pos h, cmI_lt]
    have e := cmB_zero.1 h
    constructor
    · intro q; exact .inr ⟨e, q⟩
    · rintro (q | ⟨_, q⟩)
      · omega
      · exact q
  · rw [if_neg h]
    constructor
    · intro q; exact .inl q
    · rintro (q | ⟨e, _⟩)
      · exact q
      · exact absurd (cmB_zero.2 e) h
theorem cmE_trans {a b c : Ob} (h1 : cmE a b < 0) (h2 : cmE b c < 0) : cmE a c < 0 := by
  rw [cmE_lt] at *
  rcases h1 with h1 | ⟨e1, h1⟩
  · rcases h2 with h2 | ⟨e2, _⟩
    · exact .inl (cmB_trans h1 h2)
    · rw [← e2]; exact .inl h1
  · rcases h2 with h2 | ⟨e2, h2⟩
    · rw [e1]; exact .inl h2
    · exact .inr ⟨e1.trans e2, by omega⟩
/-- An index without a fault rises. -/
theorem ix_rises {l : List Ob} (h : ixf l = 0) : ∀ k j, j < k → k < l.length → cmE (l.getD j onil) (l.getD k onil) < 0 := by
  have h0 := (ixf_zero h).2
  intro k
  induction k with
  | zero => intro j hj; omega
  | succ k ih =>
    intro j hj hk
    have hb := (eiF_zero (h0 (k + 1) hk)).2 (by omega)
    have hs : cmE (l.getD k onil) (l.getD (k + 1) onil) < 0 := by
      unfold bh at hb
      rw [Nat.add_sub_cancel] at hb
      exact of_decide_eq_true (Bool.and_eq_true_iff.1 hb).1
    by_cases e : j = k
    · rw [e]; exact hs
    · exact cmE_trans (ih j (by omega) (by omega)) hs
/-- Files without a fault rise. -/
theorem fi_rises {l : List Fl.Ob} (h : Fl.ffl l = 0) : l.length ≤ 60 ∧ ∀ k j, j < k → k < l.length → cmB (l.getD j Fl.onil).1 (l.getD k Fl.onil).1 < 0 := by
  have hE : Fl.fiE l = 0 := by
    unfold Fl.ffl at h
    split at h
    · assumption
    · exact absurd h (by assumption)
  have hm : ¬ 60 < l.length := fun q => by rw [Fl.fiE_many q] at hE; omega
  have h0 : ∀ n, n ≤ l.length → ∀ j, j < n → Fl.fiF l j = 0 := by
    intro n
    induction n with
    | zero => intro _ j hj; omega
    | succ n ih =>
      intro hn j hj
      have ih' := ih (by omega)
      by_cases e : j = n
      · subst e
        by_cases hb : Fl.fiF l j = 0
        · exact hb
        · have := Fl.fiE_bad hm (by omega) ih' hb
          rw [hE] at this; exact this.symm
      · exact ih' j (by omega)
  refine ⟨by omega, ?_⟩
  intro k
  induction k with
  | zero => intro j hj; omega
  | succ k ih =>
    intro j hj hk
    have hf := h0 l.length (Nat.le_refl _) (k + 1) hk
    have hs : cmB (l.getD k Fl.onil).1 (l.getD (k + 1) Fl.onil).1 < 0 := by
      unfold Fl.fiF at hf
      split at hf
      · split at hf
        · omega
        · rename_i hc
          rw [Nat.add_sub_cancel] at hc
          have hl : Fl.leF (l.getD (k + 1) Fl.onil).1 (l.getD k Fl.onil).1 = false := by
            cases e : Fl.leF (l.getD (k + 1) Fl.onil).1 (l.getD k Fl.onil).1 with
            | false => rfl
            | true => exact absurd ⟨by omega, e⟩ hc
          unfold Fl.leF at hl
          obtain ⟨h1, h2⟩ := Bool.or_eq_false_iff.1 hl
          rcases cmB_cases (l.getD k Fl.onil).1 (l.getD (k + 1) Fl.onil).1 with ⟨q, _⟩ | ⟨_, q⟩ | ⟨q, _⟩
          · omega
          · rw [q, beq_bytes_true rfl] at h2; cases h2
          · -- the other way round it would be less
            rcases cmB_cases (l.getD (k + 1) Fl.onil).1 (l.getD k Fl.onil).1 with ⟨_, q2, _⟩ | ⟨_, q2⟩ | ⟨q2, _⟩
            · rw [h1] at q2; cases q2
            · rw [q2, beq_bytes_true rfl] at h2; cases h2
            · exact absurd (cm_anti _ _ q) (by omega)
      · rename_i hz; exact absurd hf hz
    by_cases e : j = k
    · rw [e]; exact hs
    · exact cmB_trans (ih j (by omega) (by omega)) hs
end Go.Proofs.YtjcnnmnnbjaheaaGreatDoor.En
/- The contracts of FilesIndex. No statement is proved here. -/
namespace Go.Proofs.YtjcnnmnnbjaheaaGreatDoor.En
open Go.ChangeShapes Go.WideShapes Go.ChangeAt Go.RowKit

theorem OB.belowAt {B b : Nat} {w w' : World} {a : Option Addr} {l : List Ob} (h : OB B w a l) (hb : Below b w w') (hB : B ≤ b) : OB B w' a l := fun k hk => by
  obtain ⟨g, off, e, hg, d0, d1, d2, d3⟩ := h k hk
  have q : g < b := by omega
  exact ⟨g, off, e, hg, (hb.cell (p := ⟨g, _, none⟩) q).trans d0, (hb.cell (p := ⟨g, _, none⟩) q).trans d1, (hb.cell (p := ⟨g, _, none⟩) q).trans d2, (hb.cell (p := ⟨g, _, none⟩) q).trans d3⟩
theorem flBelowAt {B b : Nat} {w w' : World} {a : Option Addr} {l : List Fl.Ob} (h : Fl.OB B w a l) (hb : Below b w w') (hB : B ≤ b) : Fl.OB B w' a l := fun k hk => by
  obtain ⟨g, off, e, hg, d0, d1, d2⟩ := h k hk
  have q : g < b := by omega
  exact ⟨g, off, e, hg, (hb.cell (p := ⟨g, _, none⟩) q).trans d0, (hb.cell (p := ⟨g, _, none⟩) q).trans d1, (hb.cell (p := ⟨g, _, none⟩) q).trans d2⟩
theorem rfBelowAt {b p : Nat} {w w' : World} {vs : List Value} (h : Rf w p vs) (hb : Below b w w') (hp : p < b) : Rf w' p vs :=
  ⟨fun k v hk => (hb.cell (p := ⟨p, k, none⟩) hp).trans (h.at_ k v hk), fun k => (hb.frozen (p := ⟨p, k, none⟩) hp).trans (h.fz k)⟩
/-- An answer that is a list of entries. -/
def EP (r z : Int) (L : List Ob) (w : World) (e : Ending) (w' : World) : Prop := ∃ v, e = .returned (.agg #[.int .i64 r, .int .i64 z, v]) ∧ w'.ownsRow w.heap.size 51 4 v L.length (ocells L) ∧ Below w.heap.size w w'
theorem nilE (base : Nat) (w : World) : w.ownsRow base 51 4 (.slice none 0 0) ([] : List Ob).length (ocells []) := ⟨rfl, .inl ⟨rfl, rfl⟩⟩
theorem ret_agg3 {a b c d e f : Value} (h1 : a = d) (h2 : b = e) (h3 : c = f) : Ending.returned (.agg #[a, b, c]) = .returned (.agg #[d, e, f]) := by rw [h1, h2, h3]
def fxR (l : List Fl.Ob) : Int := Fl.ffl l
def fxU (l : List Fl.Ob) : List Ob := l.map (ent · 0)
def fxL (l : List Fl.Ob) : List Ob := if Fl.ffl l = 0 then fxU l else []
theorem fxU_take (l : List Fl.Ob) (k : Nat) (h : k < l.length) : fxU (l.take (k + 1)) = fxU (l.take k) ++ [ent (l.getD k Fl.onil) 0] := by
  unfold fxU
  rw [Fl.ob_take l k h, List.map_append]; rfl
theorem fxU_len (l : List Fl.Ob) : (fxU l).length = l.length := by simp [fxU]
theorem fxU_last {l : List Fl.Ob} (h : Fl.ffl l = 0) {k : Nat} (hk : k < l.length) : Last (fxU (l.take k)) (ent (l.getD k Fl.onil) 0) := by
  intro j hj
  rw [fxU_len, List.length_take] at hj
  have hr := (fi_rises h).2 k j (by omega) hk
  have e : (fxU (l.take k)).getD j onil = ent (l.getD j Fl.onil) 0 := by
    unfold fxU
    have h1 : j < l.length := by omega
    simp [List.getD, List.getElem?_take_of_lt (show j < k by omega), h1]
  rw [e, cmE_lt]
  exact .inl hr
end Go.Proofs.YtjcnnmnnbjaheaaGreatDoor.En
