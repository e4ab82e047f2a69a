/- A scope with several labels: what holds at every jump to each, and a measure. No statement is proved here. -/
import Derived.Test.YtbghdelpnodijaaDoorRows
import Derived.ScopeJumps
import Derived.WalkMore
set_option linter.unusedVariables false
namespace Go.Proofs.YtbghdelpnodijaaDoor.Pp
open Go

/-- As Q; by a goto to label l: J l. -/
def jumps (J : Nat → Act → World → Prop) (Q : Exit → Act → World → Prop) : Exit → Act → World → Prop
  | .goto l, a, w => J l a w
  | e, a, w => Q e a w

theorem scope_labels {P : Program} {a : Act} {w : World} {Q : Exit → Act → World → Prop} {c : Code} (J : Nat → Act → World → Prop) (μ : Nat → Act → World → Nat) (rest : Nat → Code) (hf : ∀ l a w, J l a w → findLabel c l = some (rest l))
    (first : c.wp P (jumps J Q) a w)
    (pass : ∀ l a w, J l a w → (rest l).wp P (jumps (fun l' a' w' => J l' a' w' ∧ μ l' a' w' < μ l a w) Q) a w) : (Code.scope c).wp P Q a w := by
  intro b k cs
  have hg : ∀ l a w, J l a w → gotoIn l (.inScope c :: k) = some (.code (rest l) :: .inScope c :: k) := fun l a w h => by simp [gotoIn, hf l a w h]
  have key : ∀ n l a w, μ l a w = n → J l a w → ∃ e a' w', Q e a' w' ∧ Arrives P (lone (b.at a (.code (rest l) :: .inScope c :: k)) cs w) b k cs e a' w' := by
    intro n
    induction n using Nat.strongRecOn with
    | _ n ih =>
      intro l a w hn hJ
      obtain ⟨e, a₁, w₁, hq, harr⟩ := pass l a w hJ b (.inScope c :: k) cs
      cases e with
      | normal => exact ⟨.normal, a₁, w₁, hq, Steps.trans harr (.one step_inScope)⟩
      | exit id => exact ⟨.exit id, a₁, w₁, hq, fun k' hk => harr k' (by simp [exitTo, hk])⟩
      | goto l' =>
        obtain ⟨hJ', hlt⟩ := hq
        obtain ⟨e₂, a₂, w₂, hq₂, harr₂⟩ := ih _ (by omega) l' a₁ w₁ rfl hJ'
        exact ⟨e₂, a₂, w₂, hq₂, .of_steps (harr _ (hg _ _ _ hJ')) harr₂⟩
      | ret => exact ⟨_, a₁, w₁, hq, harr⟩
      | panic ch => exact ⟨_, a₁, w₁, hq, harr⟩
      | outgrown => exact ⟨_, a₁, w₁, hq, harr⟩
  obtain ⟨e, a₁, w₁, hq, harr⟩ := first b (.inScope c :: k) cs
  cases e with
  | normal => exact ⟨.normal, a₁, w₁, hq, .head step_scope (Steps.trans harr (.one step_inScope))⟩
  | exit id => exact ⟨.exit id, a₁, w₁, hq, fun k' hk => .head step_scope (harr k' (by simp [exitTo, hk]))⟩
  | goto l' =>
    obtain ⟨e₂, a₂, w₂, hq₂, harr₂⟩ := key _ l' a₁ w₁ rfl hq
    exact ⟨e₂, a₂, w₂, hq₂, .of_steps (.head step_scope (harr _ (hg _ _ _ hq))) harr₂⟩
  | ret => exact ⟨_, a₁, w₁, hq, .of_steps (.one step_scope) harr⟩
  | panic ch => exact ⟨_, a₁, w₁, hq, .of_steps (.one step_scope) harr⟩
  | outgrown => exact ⟨_, a₁, w₁, hq, .of_steps (.one step_scope) harr⟩
/-- The same for three labels, each told apart. -/
def jumps3 (J0 J1 J2 : Act → World → Prop) (Q : Exit → Act → World → Prop) : Exit → Act → World → Prop
  | .goto l, a, w => (l = 0 ∧ J0 a w) ∨ (l = 1 ∧ J1 a w) ∨ (l = 2 ∧ J2 a w)
  | e, a, w => Q e a w
theorem jumps_of {J0 J1 J2 : Act → World → Prop} {J : Nat → Act → World → Prop} {Q : Exit → Act → World → Prop} (h0 : ∀ a w, J0 a w → J 0 a w) (h1 : ∀ a w, J1 a w → J 1 a w) (h2 : ∀ a w, J2 a w → J 2 a w) (e : Exit) (a : Act) (w : World) (h : jumps3 J0 J1 J2 Q e a w) : jumps J Q e a w := by
  cases e with
  | goto l =>
    rcases h with ⟨rfl, h⟩ | ⟨rfl, h⟩ | ⟨rfl, h⟩
    · exact h0 a w h
    · exact h1 a w h
    · exact h2 a w h
  | _ => exact h
theorem wp_up {P : Program} {a : Act} {w : World} {Q Q' : Exit → Act → World → Prop} {c : Code} (h : c.wp P Q a w) (hq : ∀ e a w, Q e a w → Q' e a w) : c.wp P Q' a w := by
  intro b k cs
  obtain ⟨e, a', w', h1, h2⟩ := h b k cs
  exact ⟨e, a', w', hq _ _ _ h1, h2⟩
theorem scope3 {P : Program} {a : Act} {w : World} {Q : Exit → Act → World → Prop} {c r0 r1 r2 : Code} (J0 J1 J2 : Act → World → Prop) (μ : World → Nat) (hf0 : findLabel c 0 = some r0) (hf1 : findLabel c 1 = some r1) (hf2 : findLabel c 2 = some r2)
    (first : c.wp P (jumps3 J0 J1 J2 Q) a w)
    (p0 : ∀ a w, J0 a w → r0.wp P (jumps3 (fun a' w' => J0 a' w' ∧ μ w' < μ w) (fun a' w' => J1 a' w' ∧ μ w' < μ w) (fun a' w' => J2 a' w' ∧ μ w' < μ w) Q) a w)
    (p1 : ∀ a w, J1 a w → r1.wp P (jumps3 (fun a' w' => J0 a' w' ∧ μ w' ≤ μ w) (fun a' w' => False) (fun a' w' => J2 a' w' ∧ μ w' < μ w) Q) a w)
    (p2 : ∀ a w, J2 a w → r2.wp P (jumps3 (fun a' w' => J0 a' w' ∧ μ w' ≤ μ w) (fun a' w' => J1 a' w' ∧ μ w' ≤ μ w) (fun a' w' => J2 a' w' ∧ μ w' < μ w) Q) a w) : (Code.scope c).wp P Q a w := by
  refine scope_labels (J := fun l a w => (l = 0 ∧ J0 a w) ∨ (l = 1 ∧ J1 a w) ∨ (l = 2 ∧ J2 a w)) (μ := fun l a w => 3 * μ w + l) (rest := fun l => if l = 0 then r0 else if l = 1 then r1 else r2) ?_ ?_ ?_
  · rintro l a w (⟨rfl, _⟩ | ⟨rfl, _⟩ | ⟨rfl, _⟩)
    · exact hf0
    · exact hf1
    · exact hf2
  · exact wp_up first (jumps_of (fun a w h => .inl ⟨rfl, h⟩) (fun a w h => .inr (.inl ⟨rfl, h⟩)) (fun a w h => .inr (.inr ⟨rfl, h⟩)))
  · rintro l a w (⟨rfl, h⟩ | ⟨rfl, h⟩ | ⟨rfl, h⟩)
    · exact wp_up (p0 a w h) (jumps_of (fun a' w' h => ⟨.inl ⟨rfl, h.1⟩, by have := h.2; omega⟩) (fun a' w' h => ⟨.inr (.inl ⟨rfl, h.1⟩), by have := h.2; omega⟩) (fun a' w' h => ⟨.inr (.inr ⟨rfl, h.1⟩), by have := h.2; omega⟩))
    · exact wp_up (p1 a w h) (jumps_of (fun a' w' h => ⟨.inl ⟨rfl, h.1⟩, by have := h.2; omega⟩) (fun a' w' h => h.elim) (fun a' w' h => ⟨.inr (.inr ⟨rfl, h.1⟩), by have := h.2; omega⟩))
    · exact wp_up (p2 a w h) (jumps_of (fun a' w' h => ⟨.inl ⟨rfl, h.1⟩, by have := h.2; omega⟩) (fun a' w' h => ⟨.inr (.inl ⟨rfl, h.1⟩), by have := h.2; omega⟩) (fun a' w' h => ⟨.inr (.inr ⟨rfl, h.1⟩), by have := h.2; omega⟩))
/-- The same, where the run falls from label 0's part into label 2's, and from the beginning into label 0's: each is handed what it falls into. -/
theorem scope3h {P : Program} {a : Act} {w : World} {Q : Exit → Act → World → Prop} {c r0 r1 r2 : Code} (J0 J1 J2 : Act → World → Prop) (μ : World → Nat) (hf0 : findLabel c 0 = some r0) (hf1 : findLabel c 1 = some r1) (hf2 : findLabel c 2 = some r2)
    (p1 : ∀ a w, J1 a w → r1.wp P (jumps3 (fun a' w' => J0 a' w' ∧ μ w' ≤ μ w) (fun a' w' => False) (fun a' w' => J2 a' w' ∧ μ w' < μ w) Q) a w)
    (p2 : ∀ a w, J2 a w → r2.wp P (jumps3 (fun a' w' => J0 a' w' ∧ μ w' ≤ μ w) (fun a' w' => J1 a' w' ∧ μ w' ≤ μ w) (fun a' w' => J2 a' w' ∧ μ w' < μ w) Q) a w)
    (p0 : (∀ a w m, J2 a w → μ w < m → r2.wp P (jumps3 (fun a' w' => J0 a' w' ∧ μ w' < m) (fun a' w' => J1 a' w' ∧ μ w' < m) (fun a' w' => J2 a' w' ∧ μ w' < m) Q) a w) → ∀ a w, J0 a w → r0.wp P (jumps3 (fun a' w' => J0 a' w' ∧ μ w' < μ w) (fun a' w' => J1 a' w' ∧ μ w' < μ w) (fun a' w' => J2 a' w' ∧ μ w' < μ w) Q) a w)
    (first : (∀ a w, J0 a w → r0.wp P (jumps3 J0 J1 J2 Q) a w) → c.wp P (jumps3 J0 J1 J2 Q) a w) : (Code.scope c).wp P Q a w := by
  have up : ∀ {A0 A1 A2 B0 B1 B2 : Act → World → Prop}, (∀ a w, A0 a w → B0 a w) → (∀ a w, A1 a w → B1 a w) → (∀ a w, A2 a w → B2 a w) → ∀ e a w, jumps3 A0 A1 A2 Q e a w → jumps3 B0 B1 B2 Q e a w := by
    intro A0 A1 A2 B0 B1 B2 h0 h1 h2 e a w h
    cases e with
    | goto l =>
      rcases h with ⟨q, h⟩ | ⟨q, h⟩ | ⟨q, h⟩
      · exact .inl ⟨q, h0 _ _ h⟩
      · exact .inr (.inl ⟨q, h1 _ _ h⟩)
      · exact .inr (.inr ⟨q, h2 _ _ h⟩)
    | _ => exact h
  have p0' := p0 (fun a w m hJ hm => wp_up (p2 a w hJ) (up (fun _ _ h => ⟨h.1, Nat.lt_of_le_of_lt h.2 hm⟩) (fun _ _ h => ⟨h.1, Nat.lt_of_le_of_lt h.2 hm⟩) (fun _ _ h => ⟨h.1, Nat.lt_trans h.2 hm⟩)))
  exact scope3 J0 J1 J2 μ hf0 hf1 hf2 (first (fun a w hJ => wp_up (p0' a w hJ) (up (fun _ _ h => h.1) (fun _ _ h => h.1) (fun _ _ h => h.1)))) p0' p1 p2
theorem wp_skip_seq {P : Program} {a : Act} {w : World} {Q : Exit → Act → World → Prop} {c : Code} (h : c.wp P Q a w) : (Code.skip.seq c).wp P Q a w := wp_seq (wp_skip h)
/-- The same, the parts told without what stands for the label. -/
theorem scope3k {P : Program} {a : Act} {w : World} {Q : Exit → Act → World → Prop} {c r0 r1 r2 : Code} (J0 J1 J2 : Act → World → Prop) (μ : World → Nat) (hf0 : findLabel c 0 = some (Code.skip.seq r0)) (hf1 : findLabel c 1 = some (Code.skip.seq r1)) (hf2 : findLabel c 2 = some (Code.skip.seq r2))
    (p1 : ∀ a w, J1 a w → r1.wp P (jumps3 (fun a' w' => J0 a' w' ∧ μ w' ≤ μ w) (fun a' w' => False) (fun a' w' => J2 a' w' ∧ μ w' < μ w) Q) a w)
    (p2 : ∀ a w, J2 a w → r2.wp P (jumps3 (fun a' w' => J0 a' w' ∧ μ w' ≤ μ w) (fun a' w' => J1 a' w' ∧ μ w' ≤ μ w) (fun a' w' => J2 a' w' ∧ μ w' < μ w) Q) a w)
    (p0 : (∀ a w m, J2 a w → μ w < m → r2.wp P (jumps3 (fun a' w' => J0 a' w' ∧ μ w' < m) (fun a' w' => J1 a' w' ∧ μ w' < m) (fun a' w' => J2 a' w' ∧ μ w' < m) Q) a w) → ∀ a w, J0 a w → r0.wp P (jumps3 (fun a' w' => J0 a' w' ∧ μ w' < μ w) (fun a' w' => J1 a' w' ∧ μ w' < μ w) (fun a' w' => J2 a' w' ∧ μ w' < μ w) Q) a w)
    (first : (∀ a w, J0 a w → r0.wp P (jumps3 J0 J1 J2 Q) a w) → c.wp P (jumps3 J0 J1 J2 Q) a w) : (Code.scope c).wp P Q a w := by
  have up : ∀ {A0 A1 A2 B0 B1 B2 : Act → World → Prop}, (∀ a w, A0 a w → B0 a w) → (∀ a w, A1 a w → B1 a w) → (∀ a w, A2 a w → B2 a w) → ∀ e a w, jumps3 A0 A1 A2 Q e a w → jumps3 B0 B1 B2 Q e a w := by
    intro A0 A1 A2 B0 B1 B2 h0 h1 h2 e a w h
    cases e with
    | goto l =>
      rcases h with ⟨q, h⟩ | ⟨q, h⟩ | ⟨q, h⟩
      · exact .inl ⟨q, h0 _ _ h⟩
      · exact .inr (.inl ⟨q, h1 _ _ h⟩)
      · exact .inr (.inr ⟨q, h2 _ _ h⟩)
    | _ => exact h
  have p0' := p0 (fun a w m hJ hm => wp_up (p2 a w hJ) (up (fun _ _ h => ⟨h.1, Nat.lt_of_le_of_lt h.2 hm⟩) (fun _ _ h => ⟨h.1, Nat.lt_of_le_of_lt h.2 hm⟩) (fun _ _ h => ⟨h.1, Nat.lt_trans h.2 hm⟩)))
  exact scope3 J0 J1 J2 μ hf0 hf1 hf2 (first (fun a w hJ => wp_up (p0' a w hJ) (up (fun _ _ h => h.1) (fun _ _ h => h.1) (fun _ _ h => h.1)))) (fun a w h => wp_skip_seq (p0' a w h)) (fun a w h => wp_skip_seq (p1 a w h)) (fun a w h => wp_skip_seq (p2 a w h))
end Go.Proofs.YtbghdelpnodijaaDoor.Pp
