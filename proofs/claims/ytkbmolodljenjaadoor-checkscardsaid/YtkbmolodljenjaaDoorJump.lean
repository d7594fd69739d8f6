/- Several labels in one scope: what holds at each jump, under a measure. Our own text. -/
import Derived.Scope
import Derived.WalkMore
namespace Go.Proofs.YtkbmolodljenjaaDoor
open Go

/-- As Q; by a goto to label l: J l. -/
def jumps (J : Nat → Act → World → Prop) (Q : Exit → Act → World → Prop) : Exit → Act → World → Prop
  | .goto l, a, w => J l a w
  | e, a, w => Q e a w
section
variable {P : Program} {a : Act} {w : World} {Q : Exit → Act → World → Prop}
theorem jumps_goto (J : Nat → Act → World → Prop) (l : Nat) : jumps J Q (.goto l) a w = J l a w := rfl
theorem jumps_ret (J : Nat → Act → World → Prop) : jumps J Q .ret a w = Q .ret a w := rfl
theorem jumps_normal (J : Nat → Act → World → Prop) : jumps J Q .normal a w = Q .normal a w := rfl
theorem jumps_panic (J : Nat → Act → World → Prop) (c : List PanicEntry) : jumps J Q (.panic c) a w = Q (.panic c) a w := rfl

theorem jumps_mono {J J' : Nat → Act → World → Prop} (h : ∀ l a w, J l a w → J' l a w) : ∀ e a w, jumps J Q e a w → jumps J' Q e a w := by
  intro e a w hq
  cases e <;> first | exact hq | exact h _ _ _ hq

theorem wp_scope_labels {c : Code} (rest : Nat → Code) (J : Nat → Nat → Act → World → Prop)
    (hf : ∀ l m a w, J l m a w → findLabel c l = some (Code.skip.seq (rest l)))
    (pass : ∀ m, (∀ l a w, (∃ m', m' < m ∧ J l m' a w) → (rest l).wp P (jumps (fun l a w => ∃ m', m' < m ∧ J l m' a w) Q) a w) → ∀ l a w, J l m a w → (rest l).wp P (jumps (fun l a w => ∃ m', m' < m ∧ J l m' a w) Q) a w)
    (first : (∀ l a w, (∃ m, J l m a w) → (rest l).wp P (jumps (fun l a w => ∃ m, J l m a w) Q) a w) → c.wp P (jumps (fun l a w => ∃ m, J l m a w) Q) a w) : (Code.scope c).wp P Q a w := by
  have all : ∀ m, ∀ l a w, J l m a w → (rest l).wp P (jumps (fun l a w => ∃ m', m' < m ∧ J l m' a w) Q) a w := by
    intro m
    induction m using Nat.strongRecOn with
    | _ m ih =>
      refine pass m ?_
      rintro l a w ⟨m', hm, hJ⟩
      exact wp_mono (ih m' hm l a w hJ) (jumps_mono (fun l a w ⟨k, hk, h⟩ => ⟨k, by omega, h⟩))
  have start := first (fun l a w ⟨m, hJ⟩ => wp_mono (all m l a w hJ) (jumps_mono (fun l a w ⟨k, _, h⟩ => ⟨k, h⟩)))
  intro b k cs
  have hg : ∀ l m a w, J l m a w → gotoIn l (.inScope c :: k) = some (.code (Code.skip.seq (rest l)) :: .inScope c :: k) := by
    intro l m a w hJ; simp [gotoIn, hf l m a w hJ]
  have key : ∀ m l a w, J l m a w → ∃ e a' w', Q e a' w' ∧ Arrives P (lone (b.at a (.code (Code.skip.seq (rest l)) :: .inScope c :: k)) cs w) b k cs e a' w' := by
    intro m
    induction m using Nat.strongRecOn with
    | _ m ih =>
      intro l a w hJ
      have two : Steps P (lone (b.at a (.code (Code.skip.seq (rest l)) :: .inScope c :: k)) cs w) (lone (b.at a (.code (rest l) :: .inScope c :: k)) cs w) :=
        .head step_seq (.one step_skip)
      obtain ⟨e, a₁, w₁, hq, harr⟩ := all m l a w hJ b (.inScope c :: k) cs
      cases e with
      | normal => exact ⟨.normal, a₁, w₁, hq, .of_steps two (Steps.trans harr (.one step_inScope))⟩
      | exit id => exact ⟨.exit id, a₁, w₁, hq, fun k' hk => Steps.trans two (harr k' (by simp [exitTo, hk]))⟩
      | goto l' =>
        obtain ⟨m', hm, hJ'⟩ := hq
        obtain ⟨e₂, a₂, w₂, hq₂, harr₂⟩ := ih m' hm l' a₁ w₁ hJ'
        exact ⟨e₂, a₂, w₂, hq₂, .of_steps (Steps.trans two (harr _ (hg l' m' a₁ w₁ hJ'))) harr₂⟩
      | ret => exact ⟨_, a₁, w₁, hq, .of_steps two harr⟩
      | panic ch => exact ⟨_, a₁, w₁, hq, .of_steps two harr⟩
      | outgrown => exact ⟨_, a₁, w₁, hq, .of_steps two harr⟩
  obtain ⟨e, a₁, w₁, hq, harr⟩ := start b (.inScope c :: k) cs
  cases e with
  | normal => exact ⟨.normal, a₁, w₁, hq, .of_steps (.one step_scope) (Steps.trans harr (.one step_inScope))⟩
  | exit id => exact ⟨.exit id, a₁, w₁, hq, fun k' hk => .head step_scope (harr k' (by simp [exitTo, hk]))⟩
  | goto l' =>
    obtain ⟨m', hJ'⟩ := hq
    obtain ⟨e₂, a₂, w₂, hq₂, harr₂⟩ := key m' l' a₁ w₁ hJ'
    exact ⟨e₂, a₂, w₂, hq₂, .of_steps (.head step_scope (harr _ (hg l' m' a₁ w₁ hJ'))) harr₂⟩
  | ret => exact ⟨_, a₁, w₁, hq, .of_steps (.one step_scope) harr⟩
  | panic ch => exact ⟨_, a₁, w₁, hq, .of_steps (.one step_scope) harr⟩
  | outgrown => exact ⟨_, a₁, w₁, hq, .of_steps (.one step_scope) harr⟩
/-- What stands behind a label. -/
def restOf (c : Code) (l : Nat) : Code := match findLabel c l with
  | some (.seq .skip r) => r
  | _ => .skip
theorem wp_scope_rest {c : Code} (J : Nat → Nat → Act → World → Prop)
    (hf : ∀ l m a w, J l m a w → findLabel c l = some (Code.skip.seq (restOf c l)))
    (pass : ∀ m, (∀ l a w, (∃ m', m' < m ∧ J l m' a w) → (restOf c l).wp P (jumps (fun l a w => ∃ m', m' < m ∧ J l m' a w) Q) a w) → ∀ l a w, J l m a w → (restOf c l).wp P (jumps (fun l a w => ∃ m', m' < m ∧ J l m' a w) Q) a w)
    (first : (∀ l a w, (∃ m, J l m a w) → (restOf c l).wp P (jumps (fun l a w => ∃ m, J l m a w) Q) a w) → c.wp P (jumps (fun l a w => ∃ m, J l m a w) Q) a w) : (Code.scope c).wp P Q a w :=
  wp_scope_labels (restOf c) J hf pass first
end
end Go.Proofs.YtkbmolodljenjaaDoor
