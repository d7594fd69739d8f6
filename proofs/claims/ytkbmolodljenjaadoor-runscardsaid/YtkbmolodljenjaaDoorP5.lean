import Derived.Scope
import Derived.WalkMore
import Derived.Test.YtkbmolodljenjaaDoorP4
import Derived.Deep.LoopGhost
import Derived.Deep.AppendLies
/- Several labels in one scope: what holds at each jump, under a measure. Our own text. -/
namespace Go.Proofs.YtkbmolodljenjaaDoor
open Go

/-- As Q; by a goto to label l: J l. -/
def jumps (J : Nat → Act → World → Prop) (Q : Exit → Act → World → Prop) : Exit → Act → World → Prop
  | .goto l, a, w => J l a w
  | e, a, w => Q e a w
section
variable {P : Program} {a : Act} {w : World} {Q : Exit → Act → World → Prop}
theorem jumps_goto (J : Nat → Act → World → Prop) (l : Nat) : jumps J Q (.goto l) a w = J l a w := rfl
theorem jumps_ret (J : Nat → Act → World → Prop) : jumps J Q .ret a w = Q .ret a w := rfl
theorem jumps_normal (J : Nat → Act → World → Prop) : jumps J Q .normal a w = Q .normal a w := rfl
theorem jumps_panic (J : Nat → Act → World → Prop) (c : List PanicEntry) : jumps J Q (.panic c) a w = Q (.panic c) a w := rfl

theorem jumps_mono {J J' : Nat → Act → World → Prop} (h : ∀ l a w, J l a w → J' l a w) : ∀ e a w, jumps J Q e a w → jumps J' Q e a w := by
  intro e a w hq
  cases e <;> first | exact hq | exact h _ _ _ hq

theorem wp_scope_labels {c : Code} (rest : Nat → Code) (J : Nat → Nat → Act → World → Prop)
    (hf : ∀ l m a w, J l m a w → findLabel c l = some (Code.skip.seq (rest l)))
    (pass : ∀ m, (∀ l a w, (∃ m', m' < m ∧ J l m' a w) → (rest l).wp P (jumps (fun l a w => ∃ m', m' < m ∧ J l m' a w) Q) a w) → ∀ l a w, J l m a w → (rest l).wp P (jumps (fun l a w => ∃ m', m' < m ∧ J l m' a w) Q) a w)
    (first : (∀ l a w, (∃ m, J l m a w) → (rest l).wp P (jumps (fun l a w => ∃ m, J l m a w) Q) a w) → c.wp P (jumps (fun l a w => ∃ m, J l m a w) Q) a w) : (Code.scope c).wp P Q a w := by
  have all : ∀ m, ∀ l a w, J l m a w → (rest l).wp P (jumps (fun l a w => ∃ m', m' < m ∧ J l m' a w) Q) a w := by
    intro m
    induction m using Nat.strongRecOn with
    | _ m ih =>
      refine pass m ?_
      rintro l a w ⟨m', hm, hJ⟩
      exact wp_mono (ih m' hm l a w hJ) (jumps_mono (fun l a w ⟨k, hk, h⟩ => ⟨k, by omega, h⟩))
  have start := first (fun l a w ⟨m, hJ⟩ => wp_mono (all m l a w hJ) (jumps_mono (fun l a w ⟨k, _, h⟩ => ⟨k, h⟩)))
  intro b k cs
  have hg : ∀ l m a w, J l m a w → gotoIn l (.inScope c :: k) = some (.code (Code.skip.seq (rest l)) :: .inScope c :: k) := by
    intro l m a w hJ; simp [gotoIn, hf l m a w hJ]
  have key : ∀ m l a w, J l m a w → ∃ e a' w', Q e a' w' ∧ Arrives P (lone (b.at a (.code (Code.skip.seq (rest l)) :: .inScope c :: k)) cs w) b k cs e a' w' := by
    intro m
    induction m using Nat.strongRecOn with
    | _ m ih =>
      intro l a w hJ
      have two : Steps P (lone (b.at a (.code (Code.skip.seq (rest l)) :: .inScope c :: k)) cs w) (lone (b.at a (.code (rest l) :: .inScope c :: k)) cs w) :=
        .head step_seq (.one step_skip)
      obtain ⟨e, a₁, w₁, hq, harr⟩ := all m l a w hJ b (.inScope c :: k) cs
      cases e with
      | normal => exact ⟨.normal, a₁, w₁, hq, .of_steps two (Steps.trans harr (.one step_inScope))⟩
      | exit id => exact ⟨.exit id, a₁, w₁, hq, fun k' hk => Steps.trans two (harr k' (by simp [exitTo, hk]))⟩
      | goto l' =>
        obtain ⟨m', hm, hJ'⟩ := hq
        obtain ⟨e₂, a₂, w₂, hq₂, harr₂⟩ := ih m' hm l' a₁ w₁ hJ'
        exact ⟨e₂, a₂, w₂, hq₂, .of_steps (Steps.trans two (harr _ (hg l' m' a₁ w₁ hJ'))) harr₂⟩
      | ret => exact ⟨_, a₁, w₁, hq, .of_steps two harr⟩
      | panic ch => exact ⟨_, a₁, w₁, hq, .of_steps two harr⟩
      | outgrown => exact ⟨_, a₁, w₁, hq, .of_steps two harr⟩
  obtain ⟨e, a₁, w₁, hq, harr⟩ := start b (.inScope c :: k) cs
  cases e with
  | normal => exact ⟨.normal, a₁, w₁, hq, .of_steps (.one step_scope) (Steps.trans harr (.one step_inScope))⟩
  | exit id => exact ⟨.exit id, a₁, w₁, hq, fun k' hk => .head step_scope (harr k' (by simp [exitTo, hk]))⟩
  | goto l' =>
    obtain ⟨m', hJ'⟩ := hq
    obtain ⟨e₂, a₂, w₂, hq₂, harr₂⟩ := key m' l' a₁ w₁ hJ'
    exact ⟨e₂, a₂, w₂, hq₂, .of_steps (.head step_scope (harr _ (hg l' m' a₁ w₁ hJ'))) harr₂⟩
  | ret => exact ⟨_, a₁, w₁, hq, .of_steps (.one step_scope) harr⟩
  | panic ch => exact ⟨_, a₁, w₁, hq, .of_steps (.one step_scope) harr⟩
  | outgrown => exact ⟨_, a₁, w₁, hq, .of_steps (.one step_scope) harr⟩
/-- What stands behind a label. -/
def restOf (c : Code) (l : Nat) : Code := match findLabel c l with
  | some (.seq .skip r) => r
  | _ => .skip
theorem wp_scope_rest {c : Code} (J : Nat → Nat → Act → World → Prop)
    (hf : ∀ l m a w, J l m a w → findLabel c l = some (Code.skip.seq (restOf c l)))
    (pass : ∀ m, (∀ l a w, (∃ m', m' < m ∧ J l m' a w) → (restOf c l).wp P (jumps (fun l a w => ∃ m', m' < m ∧ J l m' a w) Q) a w) → ∀ l a w, J l m a w → (restOf c l).wp P (jumps (fun l a w => ∃ m', m' < m ∧ J l m' a w) Q) a w)
    (first : (∀ l a w, (∃ m, J l m a w) → (restOf c l).wp P (jumps (fun l a w => ∃ m, J l m a w) Q) a w) → c.wp P (jumps (fun l a w => ∃ m, J l m a w) Q) a w) : (Code.scope c).wp P Q a w :=
  wp_scope_labels (restOf c) J hf pass first
end
end Go.Proofs.YtkbmolodljenjaaDoor

/- The document's reader: a rule. Our own text. -/
namespace Go.Proofs.YtkbmolodljenjaaDoor
open Go.RowKit

theorem Tryd.info95 : (Tryd.prog.info? 110).map (fun i => (i.zero, i.size, i.bytes)) = some (some (.agg #[.int .i64 0, .int .i64 0, .int .i64 0, .int .i64 0, .int .i64 0, .int .i64 0, .int .u8 0]), 7, 56) := by kernel_rfl
theorem Tryd.info111 : (Tryd.prog.info? 128).map (fun i => (i.zero, i.size, i.bytes)) = some (some (.agg #[.int .i64 0, .int .i64 0, .int .i64 0, .int .i64 0, .int .i64 0, .int .i64 0, .bool false]), 7, 56) := by kernel_rfl

/-- A condition, and a change, as they lie in memory. -/
structure C7 where
  a0 : Int
  a1 : Int
  a2 : Int
  b0 : Int
  b1 : Int
  b2 : Int
  op : Int
def C7.cells (c : C7) : List Value := [.int .i64 c.a0, .int .i64 c.a1, .int .i64 c.a2, .int .i64 c.b0, .int .i64 c.b1, .int .i64 c.b2, .int .u8 c.op]
def C7.ast (c : C7) : Tm × Tm := ((c.a0, c.a1, c.a2), (c.b0, c.b1, c.b2))
structure D7 where
  v : Int
  at_ : Int
  t0 : Int
  t1 : Int
  t2 : Int
  more : Int
  any : Bool
def D7.cells (c : D7) : List Value := [.int .i64 c.v, .int .i64 c.at_, .int .i64 c.t0, .int .i64 c.t1, .int .i64 c.t2, .int .i64 c.more, .bool c.any]
def D7.ast (c : D7) : Chg := (c.v, c.at_, c.any, (c.t0, c.t1, c.t2))
/-- What the ast does not hold, tied to the text. -/
def C7.Tied (s : ByteArray) (c : C7) : Prop := c.op = (byteAt s (c.a2.toNat + 1) : Int)
def D7.Tied (s : ByteArray) (c : D7) : Prop := c.more = moreAt s c.any c.t2
theorem tied_snoc {α : Type} {p : α → Prop} {l : List α} {a : α} (h : ∀ x ∈ l, p x) (ha : p a) : ∀ x ∈ l ++ [a], p x := by
  intro x hx
  rcases List.mem_append.1 hx with h' | h'
  · exact h x h'
  · simp at h'; subst h'; exact ha
theorem C7.one (c : C7) : ∀ u ∈ c.cells, u.oneCell' = true := by
  intro u hu; simp [C7.cells] at hu; rcases hu with rfl | rfl | rfl | rfl | rfl | rfl | rfl <;> rfl
theorem D7.one (c : D7) : ∀ u ∈ c.cells, u.oneCell' = true := by
  intro u hu; simp [D7.cells] at hu; rcases hu with rfl | rfl | rfl | rfl | rfl | rfl | rfl <;> rfl

def qLoop1 (s : ByteArray) : Nat → Bool → Q → List (Tm × Tm) → Option (List (Tm × Tm)) × Q
  | _, false, q, acc => (some acc, q)
  | 0, true, q, _ => (none, q)
  | f + 1, true, q, acc => match qCond s q with
    | (none, q1) => (none, q1)
    | (some c, q1) => match qNum s q1 38 0 with
      | some _ => qLoop1 s f true q1.adv (acc ++ [c])
      | none => qLoop1 s f false q1 (acc ++ [c])
def qLoop2 (s : ByteArray) : Nat → Bool → Q → List Chg → Option (List Chg) × Q
  | _, false, q, acc => (some acc, q)
  | 0, true, q, _ => (none, q)
  | f + 1, true, q, acc => match qChange s q with
    | (none, q1) => (none, q1)
    | (some c, q1) => match qNum s q1 44 0 with
      | some _ => qLoop2 s f true q1.adv (acc ++ [c])
      | none => qLoop2 s f false q1 (acc ++ [c])
def qRule (s : ByteArray) (q : Q) : Option (List (Tm × Tm) × List Chg) × Q := match qLoop1 s 121 (qNum s q 58 0).isNone q [] with
  | (none, q1) => (none, q1)
  | (some cs, q1) => match qNum s q1 58 0 with
    | none => (none, q1.fail)
    | some _ => match qLoop2 s 121 true q1.adv [] with
      | (none, q2) => (none, q2)
      | (some ds, q2) => (some (cs, ds), q2)

theorem qCond_none {s : ByteArray} {q q1 : Q} (h : qCond s q = (none, q1)) : ∃ p, q1 = .error p := by
  unfold qCond at h; split at h
  · next e => cases h; exact qTerm_none e
  · next e =>
    obtain ⟨i, rfl⟩ := qTerm_some e
    split at h
    · split at h
      · next e2 => cases h; exact qTerm_none e2
      · cases h
    · cases h; exact ⟨_, rfl⟩
theorem qTerm_ok {s : ByteArray} {i : Nat} {q1 : Q} {a : Tm} (h : qTerm s (.ok i) = (some a, q1)) : q1 = .ok (i + 1) ∧ i < s.size := by
  unfold qTerm at h; split at h
  · next e => cases h; exact ⟨rfl, num_lt e⟩
  · split at h
    · next e => cases h; exact ⟨rfl, num_lt e⟩
    · cases h
theorem qCond_ok {s : ByteArray} {i : Nat} {q1 : Q} {a : Tm × Tm} (h : qCond s (.ok i) = (some a, q1)) : q1 = .ok (i + 3) ∧ i + 3 ≤ s.size := by
  unfold qCond at h; split at h
  · cases h
  · next e =>
    obtain ⟨rfl, h1⟩ := qTerm_ok e
    split at h
    · split at h
      · cases h
      · next e2 =>
        obtain ⟨rfl, h2⟩ := qTerm_ok e2
        cases h; exact ⟨rfl, h2⟩
    · cases h
theorem qChange_none {s : ByteArray} {q q1 : Q} (h : qChange s q = (none, q1)) : ∃ p, q1 = .error p := by
  unfold qChange at h; split at h
  · cases h; cases q <;> exact ⟨_, rfl⟩
  · split at h
    · cases h; cases q <;> exact ⟨_, rfl⟩
    · split at h
      · cases h
      · split at h
        · next e => cases h; exact qTerm_none e
        · next e =>
          split at h
          · cases h
          · split at h
            · cases h; obtain ⟨i, rfl⟩ := qTerm_some e; exact ⟨_, rfl⟩
            · cases h
theorem qChange_ok {s : ByteArray} {i : Nat} {q1 : Q} {a : Chg} (h : qChange s (.ok i) = (some a, q1)) : ∃ j, q1 = .ok j ∧ i < j ∧ j ≤ s.size := by
  unfold qChange at h; split at h
  · cases h
  · next e1 =>
    split at h
    · cases h
    · next e2 =>
      split at h
      · next e3 => cases h; exact ⟨_, rfl, by omega, num_lt e3⟩
      · split at h
        · cases h
        · next e4 =>
          obtain ⟨rfl, h4⟩ := qTerm_ok e4
          split at h
          · cases h; exact ⟨_, rfl, by omega, h4⟩
          · split at h
            · cases h
            · next e6 => cases h; exact ⟨_, rfl, by omega, num_lt e6⟩
theorem qChange_bad (s : ByteArray) (p : Nat) : qChange s (.error p) = (none, .error p) := rfl

theorem cell2 {w : World} {b : Nat} {x y : Value} {t : TypeId} (h : w.heap[b]? = some (.cells #[x, y] t (0, 0))) : w.cell? ⟨b, 0, none⟩ = some x ∧ w.cell? ⟨b, 1, none⟩ = some y ∧ ∀ i, w.frozen? ⟨b, i, none⟩ = false := by
  refine ⟨?_, ?_, fun i => ?_⟩ <;> simp [World.cell?, World.frozen?, h]
theorem news_next (w : World) (o : Obj) (cs : List Value) (t : TypeId) : ∀ j u, cs[j]? = some u → ((w.alloc o).alloc (.cells cs.toArray t)).cell? ((⟨w.heap.size + 1, 0, none⟩ : Addr).add j) = some u := by
  have h := heap_alloc_new (w.alloc o) (.cells cs.toArray t)
  rw [World.size_alloc] at h
  have := World.news_of_block (cs := cs.toArray) (t := t) (fr := (0, 0)) h
  simpa using this

theorem row_kept {w3 w5 : World} {e e' z n n' base : Nat} {v v' : Value} {xs ys : List Value} {o1 o2 : Obj} (h : w3.ownsRow base e z v n xs) (hv : w3.ownsRow base e' z v' n' ys) (hne : e ≠ e') (hg : ((w3.alloc o1).alloc o2).grownBy w5 v'.ownBlock) : w5.ownsRow base e z v n xs :=
  ((h.alloc o1).alloc o2).kept hg (apart_of_types h hv hne)
theorem blk_kept {w3 w5 : World} {base e z n c t : Nat} {v : Value} {xs : List Value} {cs : Array Value} {o1 o2 : Obj} (hc : w3.heap[c]? = some (.cells cs t (0, 0))) (ho : w3.ownsRow base e z v n xs) (hne : e ≠ t) (hg : ((w3.alloc o1).alloc o2).grownBy w5 v.ownBlock) : w5.heap[c]? = some (.cells cs t (0, 0)) := by
  have hlt := lt_of_block hc
  rw [hg.block c (by simp; omega) (fun h => ne_block_of_type ho hc hne h.symm), Below.heap_alloc _ _ _ (by simp; omega), Below.heap_alloc _ _ _ hlt]
  exact hc
theorem rs_kept {B : Nat} {s : ByteArray} {q : Q} {w3 w5 : World} {base e z n : Nat} {v : Value} {xs : List Value} {o1 o2 : Obj} (hr : RS B s q w3) (ho : w3.ownsRow base e z v n xs) (hB : B < base) (hg : ((w3.alloc o1).alloc o2).grownBy w5 v.ownBlock) : RS B s q w5 :=
  ((hr.alloc o1).alloc o2).grown hg (fun h => by have := (ho.lt B h).1; omega)
theorem ex_kept {B : Nat} {w w3 w5 : World} {e z n : Nat} {v : Value} {xs : List Value} {o1 o2 : Obj} (hx : Ex B w w3) (ho : w3.ownsRow w.heap.size e z v n xs) (hg : ((w3.alloc o1).alloc o2).grownBy w5 v.ownBlock) : Ex B w w5 :=
  ((hx.alloc o1).alloc o2).grown hg (fun k hk => (ho.lt k hk).1)
def L1 (s : ByteArray) (R : Option (List (Tm × Tm)) × Q) (g : Nat) (b : Bool) (q : Q) (cl : List C7) : Prop :=
  (∃ i, q = .ok i ∧ i ≤ s.size ∧ (b = true → s.size + 1 ≤ i + g) ∧ qLoop1 s g b q (cl.map C7.ast) = R ∧ ∀ c ∈ cl, C7.Tied s c) ∨ (∃ p, q = .error p ∧ b = false ∧ R = (none, .error p))
def L2 (s : ByteArray) (R : Option (List Chg) × Q) (g : Nat) (b : Bool) (q : Q) (cl : List D7) : Prop :=
  (∃ i, q = .ok i ∧ i ≤ s.size ∧ (b = true → s.size + 1 ≤ i + g) ∧ qLoop2 s g b q (cl.map D7.ast) = R ∧ ∀ c ∈ cl, D7.Tied s c) ∨ (∃ p, q = .error p ∧ (b = true → 1 ≤ g) ∧ R = (none, .error p))
theorem L2_step {s : ByteArray} {R : Option (List Chg) × Q} {g : Nat} {q qc : Q} {dl : List D7} {rc : Option Chg} (h : L2 s R g true q dl) (hc : qChange s q = (rc, qc)) : ∃ g', g = g' + 1 ∧ ((rc = none ∧ ∃ p, qc = .error p ∧ R = (none, .error p)) ∨ ∃ c j, rc = some c ∧ qc = .ok j ∧ j ≤ s.size ∧ s.size + 1 ≤ j + g' ∧ (qNum s (.ok j) 44 0 = none → qLoop2 s g' false (.ok j) (dl.map D7.ast ++ [c]) = R) ∧ (∀ k, qNum s (.ok j) 44 0 = some k → qLoop2 s g' true (.ok (j + 1)) (dl.map D7.ast ++ [c]) = R) ∧ ∀ c ∈ dl, D7.Tied s c) := by
  rcases h with ⟨i, rfl, hi, hf, hR, hT⟩ | ⟨p, rfl, hf, rfl⟩
  · have hf' := hf rfl
    obtain ⟨g', rfl⟩ : ∃ g', g = g' + 1 := ⟨g - 1, by omega⟩
    refine ⟨g', rfl, ?_⟩
    unfold qLoop2 at hR
    rw [hc] at hR
    cases rc with
    | none =>
      obtain ⟨p, rfl⟩ := qChange_none hc
      exact .inl ⟨rfl, p, rfl, hR.symm⟩
    | some c =>
      obtain ⟨j, rfl, h1, h2⟩ := qChange_ok hc
      refine .inr ⟨c, j, rfl, rfl, h2, by omega, fun hn => ?_, fun k hn => ?_, hT⟩
      · simp only [hn] at hR; exact hR
      · simp only [hn] at hR; exact hR
  · have hf' := hf rfl
    obtain ⟨g', rfl⟩ : ∃ g', g = g' + 1 := ⟨g - 1, by omega⟩
    rw [qChange_bad] at hc
    cases hc
    exact ⟨g', rfl, .inl ⟨rfl, p, rfl, rfl⟩⟩
theorem owned_slice' {w : World} {b e z n : Nat} {v : Value} {xs : List Value} (h : w.ownsRow b e z v n xs) : ∃ ao cap, v = .slice ao n cap := by
  rcases h.2 with ⟨rfl, rfl⟩ | ⟨g, cap, _, rfl, _⟩
  · exact ⟨none, 0, rfl⟩
  · exact ⟨_, _, rfl⟩
theorem own_snoc {w : World} {base e : Nat} {v : Value} {cl : List C7} {c : C7} (h : w.ownsRow base e 7 v (cl.length + 1) (cl.flatMap C7.cells ++ c.cells)) : w.ownsRow base e 7 v (cl ++ [c]).length ((cl ++ [c]).flatMap C7.cells) := by
  simpa [List.flatMap_append] using h
theorem own_snoc2 {w : World} {base e : Nat} {v : Value} {cl : List D7} {c : D7} (h : w.ownsRow base e 7 v (cl.length + 1) (cl.flatMap D7.cells ++ c.cells)) : w.ownsRow base e 7 v (cl ++ [c]).length ((cl ++ [c]).flatMap D7.cells) := by
  simpa [List.flatMap_append] using h

section
variable {B : Nat} {s : ByteArray} {q : Q} {w : World}
set_option maxRecDepth 100000 in
set_option maxHeartbeats 3200000 in
theorem rrule_any {i : Nat} {r : Option (List (Tm × Tm) × List Chg)} {q' : Q} (hs : s.size ≤ 120) (hb : RS B s (.ok i) w) (hp : qRule s (.ok i) = (r, q')) :
    Calls Tryd.prog 44 #[.pointer (some ⟨B, 0, none⟩)] w fun e w' => (∃ (vi vd : Value) (cl : List C7) (dl : List D7), e = .returned (.agg #[vi, vd]) ∧ w'.ownsRow w.heap.size 110 7 vi cl.length (cl.flatMap C7.cells) ∧ w'.ownsRow w.heap.size 128 7 vd dl.length (dl.flatMap D7.cells) ∧ ∀ y, r = some y → y = (cl.map C7.ast, dl.map D7.ast) ∧ (∀ c ∈ cl, C7.Tied s c) ∧ ∀ c ∈ dl, D7.Tied s c) ∧ RS B s q' w' ∧ Ex B w w' := by
  have hBw := hb.lt
  have hile := hb.1
  have hv0 := heap_alloc_new w (.cells #[.slice none 0 0, .slice none 0 0] 104)
  have hC1 := heap_alloc_new (w.alloc (.cells #[.slice none 0 0, .slice none 0 0] 104)) (.cells #[.slice none 0 0, .slice none 0 0] 104)
  rw [World.size_alloc] at hC1
  have hM1 := (Below.heap_alloc _ (.cells #[.slice none 0 0, .slice none 0 0] 104) _ (lt_of_block hv0)).trans hv0
  have hb1 := (hb.alloc (.cells #[.slice none 0 0, .slice none 0 0] 104)).alloc (.cells #[.slice none 0 0, .slice none 0 0] 104)
  have hX1 := ((Ex.refl B w).alloc (.cells #[.slice none 0 0, .slice none 0 0] 104)).alloc (.cells #[.slice none 0 0, .slice none 0 0] 104)
  clear hv0 hb
  unfold qRule at hp
  obtain ⟨R1, hR1⟩ : ∃ R1, qLoop1 s 121 (qNum s (.ok i) 58 0).isNone (.ok i) [] = R1 := ⟨_, rfl⟩
  rw [hR1] at hp
  obtain ⟨i0, hi, hz0, hz1, hz2⟩ := info_parts Tryd.info95
  have hin : ∃ b : Bool, (qNum s (.ok i) 58 0).isNone = b := ⟨_, rfl⟩
  obtain ⟨b0, hb0⟩ := hin
  rw [hb0] at hR1
  go_enter Tryd.func44, Tryd.ntmps44
  go_wp2_with fail
  have hhere : Calls Tryd.prog 64 #[.pointer (some ⟨B, 0, none⟩), .int .u8 58] ((w.alloc (.cells #[.slice none 0 0, .slice none 0 0] 104)).alloc (.cells #[.slice none 0 0, .slice none 0 0] 104)) fun e w' => e = .returned (.bool !b0) ∧ RS B s (.ok i) w' ∧ Ex B ((w.alloc (.cells #[.slice none 0 0, .slice none 0 0] 104)).alloc (.cells #[.slice none 0 0, .slice none 0 0] 104)) w' := by
    cases hn : qNum s (.ok i) 58 0 with
    | none => rw [hn] at hb0; cases hb0; exact here_no 58 hs (by omega) hb1 hn
    | some k => rw [hn] at hb0; cases hb0; exact here_yes 58 k hs (by omega) hb1 hn
  refine hhere.mono ?_; rintro e w2 ⟨rfl, hb2, hx2⟩
  have hX2 := hX1.trans hx2
  have hC2 := (hx2.block _ (lt_of_block hC1) (by omega)).trans hC1
  have hM2 := (hx2.block _ (lt_of_block hM1) (by omega)).trans hM1
  have hnot : ∀ (x : Bool) (w : World), (Op.unary .not (.bool x)).run Tryd.prog w = .ok (.bool (!x)) w := fun _ _ => rfl
  clear hhere hb1 hX1 hC1 hM1 hx2 hb0
  go_wp2_with fail
  go_loopg [4] 121 (fun gk more wr => ∃ (b : Bool) (q1 : Q) (cl : List C7) (vi : Value), more = .bool b ∧ RS B s q1 wr ∧ Ex B w wr ∧ wr.heap[w.heap.size + 1]? = some (.cells #[vi, .slice none 0 0] 104 (0, 0)) ∧ wr.heap[w.heap.size]? = some (.cells #[.slice none 0 0, .slice none 0 0] 104 (0, 0)) ∧ wr.ownsRow w.heap.size 110 7 vi cl.length (cl.flatMap C7.cells) ∧ cl.length + gk ≤ 122 ∧ L1 s R1 gk b q1 cl)
  case atStart => exact ⟨b0, .ok i, [], _, rfl, hb2, hX2, hC2, hM2, World.ownsRow_nil _ _ _ _, by simp, .inl ⟨i, rfl, hile, fun _ => by omega, hR1, by simp⟩⟩
  case round =>
    clear hb2 hX2 hC2 hM2 hR1 hile
    clear w2
    obtain ⟨b, q1, cl, vi, rfl, hbr, hXr, hCr, hMr, hor, hlen, hL⟩ := hrel
    cases b with
    | false =>
      have HTC : Aside (∀ y, r = some y → ∀ c ∈ cl, C7.Tied s c) := by
        intro y hy
        rcases hL with ⟨_, _, _, _, _, hT⟩ | ⟨p, _, _, rfl⟩
        · exact hT
        · simp only [Prod.mk.injEq] at hp
          obtain ⟨h1, _⟩ := hp
          rw [← h1] at hy; cases hy
      have hE : ∃ q2 R2, qMust s q1 58 = q2 ∧ L2 s R2 121 true q2 [] ∧ (match R2 with | (none, q3) => (none, q3) | (some ds, q3) => (some (cl.map C7.ast, ds), q3)) = (r, q') := by
        rcases hL with ⟨i1, rfl, hi1, _, hR, _⟩ | ⟨p, rfl, _, rfl⟩
        · have hR' : (some (cl.map C7.ast), Except.ok i1) = R1 := by rw [← hR]; cases gk <;> rfl
          subst hR'
          simp only at hp
          cases h58 : qNum s (.ok i1) 58 0 with
          | none =>
            simp only [h58] at hp
            exact ⟨_, (none, .error i1), rfl, .inr ⟨i1, by unfold qMust; rw [h58]; rfl, fun _ => by omega, rfl⟩, hp⟩
          | some k =>
            simp only [h58] at hp
            have hl := num_lt h58
            exact ⟨_, qLoop2 s 121 true (.ok (i1 + 1)) [], rfl, .inl ⟨i1 + 1, by unfold qMust; rw [h58]; rfl, hl, fun _ => by omega, by unfold qMust; rw [h58]; rfl, by simp⟩, hp⟩
        · exact ⟨_, (none, .error p), rfl, .inr ⟨p, rfl, fun _ => by omega, rfl⟩, hp⟩
      obtain ⟨q2, R2, hq2, hL2, hp2⟩ := hE
      have HP2 : Aside (_ = (r, q')) := hp2
      have HL2 : Aside (L2 s R2 121 true q2 []) := hL2
      have HKR : Aside (RS B s q1 wr ∧ Ex B w wr ∧ _ ∧ _ ∧ _) := ⟨hbr, hXr, hCr, hMr, hor⟩
      clear hp hp2 hL2 hL hlen hCr hMr hXr hi hz0 hz1 hz2 hor
      clear i0
      go_wp2_with fail
      refine (must_any 58 (by omega) hs (by omega) hbr).mono ?_; rintro e w8 ⟨rfl, hb8, hx8⟩
      rw [hq2] at hb8
      obtain ⟨hbr', hXr, hCr, hMr, hor⟩ := HKR.out
      have hX8 := hXr.trans hx8
      have hC8 := (hx8.block _ (lt_of_block hCr) (by omega)).trans hCr
      have hM8 := (hx8.block _ (lt_of_block hMr) (by omega)).trans hMr
      have ho8 := hx8.ownsRow hBw hor
      have HK8 : Aside (RS B s q2 w8 ∧ Ex B w w8 ∧ _ ∧ _ ∧ _) := ⟨hb8, hX8, hC8, hM8, ho8⟩
      clear HKR hbr hbr' hXr hCr hMr hor hx8 hb8 hX8 hC8 hM8 ho8 hq2
      obtain ⟨i0, hi, hz0, hz1, hz2⟩ := info_parts Tryd.info111
      go_wp2_with fail
      obtain ⟨hb8, hX8, hC8, hM8, ho8⟩ := HK8.out
      go_loopg [6] 121 (fun gk more wr => ∃ (b : Bool) (q1 : Q) (dl : List D7) (vd : Value), more = .bool b ∧ RS B s q1 wr ∧ Ex B w wr ∧ wr.heap[w.heap.size + 1]? = some (.cells #[vi, vd] 104 (0, 0)) ∧ wr.heap[w.heap.size]? = some (.cells #[.slice none 0 0, .slice none 0 0] 104 (0, 0)) ∧ wr.ownsRow w.heap.size 110 7 vi cl.length (cl.flatMap C7.cells) ∧ wr.ownsRow w.heap.size 128 7 vd dl.length (dl.flatMap D7.cells) ∧ dl.length + gk ≤ 122 ∧ L2 s R2 gk b q1 dl)
      case atStart => exact ⟨true, q2, [], _, rfl, hb8, hX8, hC8, hM8, ho8, World.ownsRow_nil _ _ _ _, by simp, HL2.out⟩
      case round =>
        clear hb8 hX8 hC8 hM8 ho8 HK8 HL2
        obtain ⟨b, q1, dl, vd, rfl, hbr, hXr, hCr, hMr, hov, hor, hlen, hL⟩ := hrel
        cases b with
        | false =>
          obtain ⟨aoi, capi, rfl⟩ := owned_slice' hov
          obtain ⟨aod, capd, rfl⟩ := owned_slice' hor
          have hR2 : (q1 = .error q1.pos ∧ R2 = (none, q1)) ∨ (R2 = (some (dl.map D7.ast), q1) ∧ ∀ c ∈ dl, D7.Tied s c) := by
            rcases hL with ⟨i1, rfl, _, _, hR, hT⟩ | ⟨p, rfl, _, rfl⟩
            · right; exact ⟨by rw [← hR]; cases gk <;> rfl, hT⟩
            · left; exact ⟨rfl, rfl⟩
          have hrq : q' = q1 ∧ ∀ y, r = some y → y = (cl.map C7.ast, dl.map D7.ast) ∧ (∀ c ∈ cl, C7.Tied s c) ∧ ∀ c ∈ dl, D7.Tied s c := by
            have hp2 := HP2.out
            rcases hR2 with ⟨_, rfl⟩ | ⟨rfl, hTd⟩
            · simp only [Prod.mk.injEq] at hp2; obtain ⟨rfl, rfl⟩ := hp2; exact ⟨rfl, fun _ h => (by cases h)⟩
            · simp only [Prod.mk.injEq] at hp2; obtain ⟨rfl, rfl⟩ := hp2; exact ⟨rfl, fun y h => ⟨by cases h; rfl, HTC.out y h, hTd⟩⟩
          obtain ⟨rfl, hrel'⟩ := hrq
          obtain ⟨k0, k1, kf⟩ := cell2 hCr
          obtain ⟨m0, m1, mf⟩ := cell2 hMr
          have lC := lt_of_block hCr
          have nb1 : Value.ownBlock (.slice aoi cl.length capi) ≠ some w.heap.size := ne_block_of_type hov hMr (by omega)
          have nb2 : Value.ownBlock (.slice aod dl.length capd) ≠ some w.heap.size := ne_block_of_type hor hMr (by omega)
          have FIN : Aside (RS B s q' _ ∧ Ex B w _ ∧ _ ∧ _) := ⟨(hbr.set_other (p := ⟨w.heap.size, 0, none⟩) (by show w.heap.size ≠ B; omega) (.slice aoi cl.length capi)).set_other (p := ⟨w.heap.size, 1, none⟩) (by show w.heap.size ≠ B; omega) (.slice aod dl.length capd), (hXr.setCell (p := ⟨w.heap.size, 0, none⟩) (.inr (Nat.le_refl _)) (.slice aoi cl.length capi)).setCell (p := ⟨w.heap.size, 1, none⟩) (.inr (Nat.le_refl _)) (.slice aod dl.length capd), ownsRow_setCell_other (ownsRow_setCell_other hov (a := ⟨w.heap.size, 0, none⟩) nb1 (.slice aoi cl.length capi)) (a := ⟨w.heap.size, 1, none⟩) nb1 (.slice aod dl.length capd), ownsRow_setCell_other (ownsRow_setCell_other hor (a := ⟨w.heap.size, 0, none⟩) nb2 (.slice aoi cl.length capi)) (a := ⟨w.heap.size, 1, none⟩) nb2 (.slice aod dl.length capd)⟩
          have HREL : Aside (∀ y, r = some y → y = (cl.map C7.ast, dl.map D7.ast) ∧ (∀ c ∈ cl, C7.Tied s c) ∧ ∀ c ∈ dl, D7.Tied s c) := hrel'
          clear hbr hXr hCr hMr hov hor hlen hL hR2 HP2 hrel' nb1 nb2
          go_wp2
          obtain ⟨f1, f2, f3, f4⟩ := FIN.out
          exact bodyPost_ret (v := .agg #[.slice aoi cl.length capi, .slice aod dl.length capd]) (by simp [results, Tryd.results44, go_sem, m0, m1]) rfl ⟨⟨_, _, cl, dl, rfl, f3, f4, HREL.out⟩, f1, f2⟩
        | true =>
          cases hc : qChange s q1 with
          | mk rc qc =>
          obtain ⟨g', rfl, hst⟩ := L2_step hL hc
          have HA : Aside (dl.length + (g' + 1) ≤ 122) := hlen
          have HST2 : Aside _ := hst
          clear hlen hL hst
          go_wp2_with fail
          refine (rchange_any hs hbr hc).mono ?_
          rintro e w3 ⟨⟨d0, d1, d2, d3, d4, d5, d6, rfl, hast⟩, hb3, hx3⟩
          have HST : Aside (∀ y, rc = some y → y = (d0, d1, d6, (d2, d3, d4)) ∧ d5 = moreAt s d6 d4) := hast
          have hX3 := hXr.trans hx3
          have hC3 := (hx3.block _ (lt_of_block hCr) (by omega)).trans hCr
          have hM3 := (hx3.block _ (lt_of_block hMr) (by omega)).trans hMr
          have ho3 := hx3.ownsRow hBw hor
          have hv3 := hx3.ownsRow hBw hov
          have HK : Aside (RS B s qc w3 ∧ Ex B w w3 ∧ _ ∧ _ ∧ _ ∧ _) := ⟨hb3, hX3, hC3, hM3, ho3, hv3⟩
          have k0 := (cell2 hC3).2.1
          have lC := lt_of_block hC3
          have hlx : w.heap.size ≤ w3.heap.size := hX3.size
          have hA := HA.out
          clear hast hbr hXr hCr hMr hor hov hx3 hX3 hC3 hM3 hb3 ho3 hv3 hc
          go_wp2_with (at_builtin; refine wpList_append_own _ rfl _ _ 102 rfl w.heap.size 128 i0 _ 7 56 Tryd.underlying102 hi hz0 hz1 hz2 rfl (Nat.succ_pos 6) vd dl.length (dl.flatMap D7.cells) rfl ((HK.out.2.2.2.2.1.alloc _).alloc _) ⟨w3.heap.size + 1, 0, none⟩ 1 1 (D7.cells ⟨d0, d1, d2, d3, d4, d5, d6⟩) rfl rfl (news_next _ _ _ _) (D7.one _) ?c3 ?c4 ?c5 ?_)
          case c3 => unfold maxLen; omega
          case c4 => omega
          case c5 => simp; omega
          intro v' w5 hown' hgrow _
          obtain ⟨g5, cap5, hv5⟩ := owned_form hown' (by omega)
          subst hv5
          obtain ⟨hb3, hX3, hC3, hM3, ho3, hv3⟩ := HK.out
          have hb5 := rs_kept hb3 ho3 hBw hgrow
          have hX5 := ex_kept hX3 ho3 hgrow
          have hC5 := blk_kept hC3 ho3 (by omega) hgrow
          have hM5 := blk_kept hM3 ho3 (by omega) hgrow
          have hw5 := row_kept hv3 ho3 (by omega) hgrow
          have hne5 : Value.ownBlock (.slice (some ⟨g5, 0, none⟩) (dl.length + 1) cap5) ≠ some (w.heap.size + 1) := ne_block_of_type hown' hC5 (by omega)
          have hne6 : vi.ownBlock ≠ some (w.heap.size + 1) := ne_block_of_type hw5 hC5 (by omega)
          have hb6 := hb5.set_other (p := ⟨w.heap.size + 1, 1, none⟩) (by show w.heap.size + 1 ≠ B; omega) (.slice (some ⟨g5, 0, none⟩) (dl.length + 1) cap5)
          have hX6 := hX5.setCell (p := ⟨w.heap.size + 1, 1, none⟩) (.inr (by show w.heap.size ≤ w.heap.size + 1; omega)) (.slice (some ⟨g5, 0, none⟩) (dl.length + 1) cap5)
          have hC6 := two_setCell1 (y := (.slice (some ⟨g5, 0, none⟩) (dl.length + 1) cap5)) hC5
          have hM6 := (heap_setCell_other w5 ⟨w.heap.size + 1, 1, none⟩ w.heap.size (.slice (some ⟨g5, 0, none⟩) (dl.length + 1) cap5) (by show w.heap.size ≠ w.heap.size + 1; omega)).trans hM5
          have ho6 := own_snoc2 (ownsRow_setCell_other hown' (a := ⟨w.heap.size + 1, 1, none⟩) hne5 (.slice (some ⟨g5, 0, none⟩) (dl.length + 1) cap5))
          have hv6 := ownsRow_setCell_other hw5 (a := ⟨w.heap.size + 1, 1, none⟩) hne6 (.slice (some ⟨g5, 0, none⟩) (dl.length + 1) cap5)
          have HN : Aside (RS B s qc _ ∧ Ex B w _ ∧ _ ∧ _ ∧ _ ∧ _) := ⟨hb6, hX6, hC6, hM6, ho6, hv6⟩
          obtain ⟨k5', k5, kf⟩ := cell2 hC5
          clear k5'
          have lC5 := lt_of_block hC5
          clear HK hb3 hX3 hC3 hM3 ho3 hv3 hb5 hX5 hC5 hM5 hw5 hne5 hne6 hb6 hX6 hC6 hM6 ho6 hv6 hown' hgrow k0
          go_wp2_with fail
          obtain ⟨hb6, hX6, hC6, hM6, ho6, hv6⟩ := HN.out
          generalize w5.setCell ⟨w.heap.size + 1, 1, none⟩ (.slice (some ⟨g5, 0, none⟩) (dl.length + 1) cap5) = w6 at *
          clear HN k5 kf lC5 lC hlx
          have hfin := HA.out
          rcases HST2.out with ⟨rfl, p, rfl, hRR⟩ | ⟨c, j, rfl, rfl, hj, hfu, hno, hyes, hTd⟩
          · refine (got_no 44 hs (by omega) hb6 rfl).mono ?_; rintro e w7 ⟨rfl, hb7, hx7⟩
            have FIN : Aside (RS B s (.error p) w7 ∧ Ex B w w7 ∧ _ ∧ _ ∧ _ ∧ _) := ⟨hb7, hX6.trans hx7, (hx7.block _ (lt_of_block hC6) (by omega)).trans hC6, (hx7.block _ (lt_of_block hM6) (by omega)).trans hM6, hx7.ownsRow hBw ho6, hx7.ownsRow hBw hv6⟩
            have HRR : Aside (R2 = _) := hRR
            clear hb6 hX6 hC6 hM6 ho6 hv6 hb7 hx7 hRR HST2
            go_wp2
            go_roundg g'
            case measure => exact Nat.lt_succ_self _
            case rel =>
              obtain ⟨f1, f2, f3, f4, f5, f6⟩ := FIN.out
              exact ⟨false, .error p, dl ++ [⟨d0, d1, d2, d3, d4, d5, d6⟩], _, rfl, f1, f2, f3, f4, f6, f5, by simp; omega, .inr ⟨p, rfl, fun h => (by cases h), HRR.out⟩⟩
          · have hcc := (HST.out c rfl).1
            have HTI : Aside (d5 = moreAt s d6 d4) := (HST.out c rfl).2
            have HTD : Aside (∀ c ∈ dl, D7.Tied s c) := hTd
            clear hTd
            cases hg : qNum s (.ok j) 44 0 with
            | none =>
              have hRR := hno hg
              refine (got_no 44 hs (by omega) hb6 hg).mono ?_; rintro e w7 ⟨rfl, hb7, hx7⟩
              have FIN : Aside (RS B s (.ok j) w7 ∧ Ex B w w7 ∧ _ ∧ _ ∧ _ ∧ _) := ⟨hb7, hX6.trans hx7, (hx7.block _ (lt_of_block hC6) (by omega)).trans hC6, (hx7.block _ (lt_of_block hM6) (by omega)).trans hM6, hx7.ownsRow hBw ho6, hx7.ownsRow hBw hv6⟩
              have HRR2 : Aside (_ = R2) := hRR
              have HCC : Aside (c = _) := hcc
              clear hb6 hX6 hC6 hM6 ho6 hv6 hb7 hx7 hRR hg hcc hno hyes HST2
              go_wp2
              go_roundg g'
              case measure => exact Nat.lt_succ_self _
              case rel =>
                obtain ⟨f1, f2, f3, f4, f5, f6⟩ := FIN.out
                exact ⟨false, .ok j, dl ++ [⟨d0, d1, d2, d3, d4, d5, d6⟩], _, rfl, f1, f2, f3, f4, f6, f5, by simp; omega, .inl ⟨j, rfl, hj, fun h => (by cases h), by rw [← HRR2.out, HCC.out]; simp [D7.ast], tied_snoc (a := (⟨d0, d1, d2, d3, d4, d5, d6⟩ : D7)) HTD.out HTI.out⟩⟩
            | some kk =>
              have hRR := hyes kk hg
              have hlt := num_lt hg
              refine (got_yes 44 kk hs (by omega) hb6 hg).mono ?_; rintro e w7 ⟨rfl, hb7, hx7⟩
              have FIN : Aside (RS B s (.ok (j + 1)) w7 ∧ Ex B w w7 ∧ _ ∧ _ ∧ _ ∧ _) := ⟨hb7, hX6.trans hx7, (hx7.block _ (lt_of_block hC6) (by omega)).trans hC6, (hx7.block _ (lt_of_block hM6) (by omega)).trans hM6, hx7.ownsRow hBw ho6, hx7.ownsRow hBw hv6⟩
              have HRR2 : Aside (_ = R2) := hRR
              have HCC : Aside (c = _) := hcc
              clear hb6 hX6 hC6 hM6 ho6 hv6 hb7 hx7 hRR hg hcc hno hyes HST2
              go_wp2
              go_roundg g'
              case measure => exact Nat.lt_succ_self _
              case rel =>
                obtain ⟨f1, f2, f3, f4, f5, f6⟩ := FIN.out
                exact ⟨true, .ok (j + 1), dl ++ [⟨d0, d1, d2, d3, d4, d5, d6⟩], _, rfl, f1, f2, f3, f4, f6, f5, by simp; omega, .inl ⟨j + 1, rfl, hlt, fun _ => by omega, by rw [← HRR2.out, HCC.out]; simp [D7.ast], tied_snoc (a := (⟨d0, d1, d2, d3, d4, d5, d6⟩ : D7)) HTD.out HTI.out⟩⟩
    | true =>
      rcases hL with ⟨i1, rfl, hi1, hfu, hR, hTc⟩ | ⟨p, _, hbf, _⟩
      case inr => cases hbf
      have hfu' := hfu rfl
      obtain ⟨g', rfl⟩ : ∃ g', gk = g' + 1 := ⟨gk - 1, by omega⟩
      unfold qLoop1 at hR
      cases hc : qCond s (.ok i1) with
      | mk rc qc =>
      rw [hc] at hR
      have HA : Aside (cl.length + (g' + 1) ≤ 122 ∧ s.size + 1 ≤ i1 + (g' + 1)) := ⟨hlen, hfu'⟩
      have HRR : Aside (_ = R1) := hR
      have HTc : Aside (∀ c ∈ cl, C7.Tied s c) := hTc
      clear hlen hfu hfu' hR hTc
      go_wp2_with fail
      refine (rcond_any hs hbr hc).mono ?_
      rintro e w3 ⟨⟨a0, a1, a2, b0', b1', b2', op', rfl, hast⟩, hb3, hx3⟩
      have HST : Aside (∀ y, rc = some y → y = ((a0, a1, a2), (b0', b1', b2')) ∧ op' = (byteAt s (a2.toNat + 1) : Int)) := hast
      have hX3 := hXr.trans hx3
      have hC3 := (hx3.block _ (lt_of_block hCr) (by omega)).trans hCr
      have hM3 := (hx3.block _ (lt_of_block hMr) (by omega)).trans hMr
      have ho3 := hx3.ownsRow hBw hor
      have HK : Aside (RS B s qc w3 ∧ Ex B w w3 ∧ _ ∧ _ ∧ _) := ⟨hb3, hX3, hC3, hM3, ho3⟩
      have HC : Aside (qCond s (.ok i1) = (rc, qc)) := hc
      have k0 := (cell2 hC3).1
      have lC := lt_of_block hC3
      have hlx : w.heap.size ≤ w3.heap.size := hX3.size
      have hA := HA.out.1
      clear hast hbr hXr hCr hMr hor hx3 hX3 hC3 hM3 hb3 ho3 hc
      go_wp2_with (at_builtin; refine wpList_append_own _ rfl _ _ 101 rfl w.heap.size 110 i0 _ 7 56 Tryd.underlying101 hi hz0 hz1 hz2 rfl (Nat.succ_pos 6) vi cl.length (cl.flatMap C7.cells) rfl ((HK.out.2.2.2.2.alloc _).alloc _) ⟨w3.heap.size + 1, 0, none⟩ 1 1 (C7.cells ⟨a0, a1, a2, b0', b1', b2', op'⟩) rfl rfl (news_next _ _ _ _) (C7.one _) ?c3 ?c4 ?c5 ?_)
      case c3 => unfold maxLen; omega
      case c4 => omega
      case c5 => simp; omega
      intro v' w5 hown' hgrow _
      obtain ⟨g5, cap5, hv5⟩ := owned_form hown' (by omega)
      subst hv5
      obtain ⟨hb3, hX3, hC3, hM3, ho3⟩ := HK.out
      have hb5 := rs_kept hb3 ho3 hBw hgrow
      have hX5 := ex_kept hX3 ho3 hgrow
      have hC5 := blk_kept hC3 ho3 (by omega) hgrow
      have hM5 := blk_kept hM3 ho3 (by omega) hgrow
      have hne5 : Value.ownBlock (.slice (some ⟨g5, 0, none⟩) (cl.length + 1) cap5) ≠ some (w.heap.size + 1) := ne_block_of_type hown' hC5 (by omega)
      have hb6 := hb5.set_other (p := ⟨w.heap.size + 1, 0, none⟩) (by show w.heap.size + 1 ≠ B; omega) (.slice (some ⟨g5, 0, none⟩) (cl.length + 1) cap5)
      have hX6 := hX5.setCell (p := ⟨w.heap.size + 1, 0, none⟩) (.inr (by show w.heap.size ≤ w.heap.size + 1; omega)) (.slice (some ⟨g5, 0, none⟩) (cl.length + 1) cap5)
      have hC6 := two_setCell0 (y := .slice (some ⟨g5, 0, none⟩) (cl.length + 1) cap5) hC5
      have hM6 := (heap_setCell_other w5 ⟨w.heap.size + 1, 0, none⟩ w.heap.size (.slice (some ⟨g5, 0, none⟩) (cl.length + 1) cap5) (by show w.heap.size ≠ w.heap.size + 1; omega)).trans hM5
      have ho6 := own_snoc (ownsRow_setCell_other hown' (a := ⟨w.heap.size + 1, 0, none⟩) hne5 (.slice (some ⟨g5, 0, none⟩) (cl.length + 1) cap5))
      have HN : Aside (RS B s qc _ ∧ Ex B w _ ∧ _ ∧ _ ∧ _) := ⟨hb6, hX6, hC6, hM6, ho6⟩
      obtain ⟨k5, k5', kf⟩ := cell2 hC5
      clear k5'
      have lC5 := lt_of_block hC5
      clear HK hb3 hX3 hC3 hM3 ho3 hb5 hX5 hC5 hM5 hne5 hb6 hX6 hC6 hM6 ho6 hown' hgrow k0
      go_wp2_with fail
      obtain ⟨hb6, hX6, hC6, hM6, ho6⟩ := HN.out
      generalize w5.setCell ⟨w.heap.size + 1, 0, none⟩ (.slice (some ⟨g5, 0, none⟩) (cl.length + 1) cap5) = w6 at *
      clear HN k5 kf lC5 lC hlx
      have hfin := HA.out
      cases rc with
      | none =>
        obtain ⟨p, rfl⟩ := qCond_none HC.out
        have hRR : (none, Except.error p) = R1 := HRR.out
        refine (got_no 38 hs (by omega) hb6 rfl).mono ?_; rintro e w7 ⟨rfl, hb7, hx7⟩
        have FIN : Aside (RS B s (.error p) w7 ∧ Ex B w w7 ∧ _ ∧ _ ∧ _) := ⟨hb7, hX6.trans hx7, (hx7.block _ (lt_of_block hC6) (by omega)).trans hC6, (hx7.block _ (lt_of_block hM6) (by omega)).trans hM6, hx7.ownsRow hBw ho6⟩
        clear hb6 hX6 hC6 hM6 ho6 hb7 hx7
        go_wp2
        go_roundg g'
        case measure => exact Nat.lt_succ_self _
        case rel =>
          obtain ⟨f1, f2, f3, f4, f5⟩ := FIN.out
          exact ⟨false, .error p, cl ++ [⟨a0, a1, a2, b0', b1', b2', op'⟩], _, rfl, f1, f2, f3, f4, f5, by simp; omega, .inr ⟨p, rfl, rfl, hRR.symm⟩⟩
      | some c =>
        obtain ⟨rfl, hle⟩ := qCond_ok HC.out
        have hcc := (HST.out c rfl).1
        have HTI : Aside (op' = (byteAt s (a2.toNat + 1) : Int)) := (HST.out c rfl).2
        cases hg : qNum s (.ok (i1 + 3)) 38 0 with
        | none =>
          have hRR : qLoop1 s g' false (.ok (i1 + 3)) (cl.map C7.ast ++ [c]) = R1 := by have := HRR.out; simp only [hg] at this; exact this
          refine (got_no 38 hs (by omega) hb6 hg).mono ?_; rintro e w7 ⟨rfl, hb7, hx7⟩
          have FIN : Aside (RS B s (.ok (i1 + 3)) w7 ∧ Ex B w w7 ∧ _ ∧ _ ∧ _) := ⟨hb7, hX6.trans hx7, (hx7.block _ (lt_of_block hC6) (by omega)).trans hC6, (hx7.block _ (lt_of_block hM6) (by omega)).trans hM6, hx7.ownsRow hBw ho6⟩
          have HRR2 : Aside (_ = R1) := hRR
          have HCC : Aside (c = _) := hcc
          clear hb6 hX6 hC6 hM6 ho6 hb7 hx7 hRR HRR hg hcc
          go_wp2
          go_roundg g'
          case measure => exact Nat.lt_succ_self _
          case rel =>
            obtain ⟨f1, f2, f3, f4, f5⟩ := FIN.out
            exact ⟨false, .ok (i1 + 3), cl ++ [⟨a0, a1, a2, b0', b1', b2', op'⟩], _, rfl, f1, f2, f3, f4, f5, by simp; omega, .inl ⟨i1 + 3, rfl, hle, fun h => (by cases h), by rw [← HRR2.out, HCC.out]; simp [C7.ast], tied_snoc (a := (⟨a0, a1, a2, b0', b1', b2', op'⟩ : C7)) HTc.out HTI.out⟩⟩
        | some kk =>
          have hRR : qLoop1 s g' true (.ok (i1 + 3 + 1)) (cl.map C7.ast ++ [c]) = R1 := by have := HRR.out; simp only [hg] at this; exact this
          have hlt := num_lt hg
          refine (got_yes 38 kk hs (by omega) hb6 hg).mono ?_; rintro e w7 ⟨rfl, hb7, hx7⟩
          have FIN : Aside (RS B s (.ok (i1 + 3 + 1)) w7 ∧ Ex B w w7 ∧ _ ∧ _ ∧ _) := ⟨hb7, hX6.trans hx7, (hx7.block _ (lt_of_block hC6) (by omega)).trans hC6, (hx7.block _ (lt_of_block hM6) (by omega)).trans hM6, hx7.ownsRow hBw ho6⟩
          have HRR2 : Aside (_ = R1) := hRR
          have HCC : Aside (c = _) := hcc
          clear hb6 hX6 hC6 hM6 ho6 hb7 hx7 hRR HRR hg hcc
          go_wp2
          go_roundg g'
          case measure => exact Nat.lt_succ_self _
          case rel =>
            obtain ⟨f1, f2, f3, f4, f5⟩ := FIN.out
            exact ⟨true, .ok (i1 + 3 + 1), cl ++ [⟨a0, a1, a2, b0', b1', b2', op'⟩], _, rfl, f1, f2, f3, f4, f5, by simp; omega, .inl ⟨i1 + 3 + 1, rfl, hlt, fun _ => by omega, by rw [← HRR2.out, HCC.out]; simp [C7.ast], tied_snoc (a := (⟨a0, a1, a2, b0', b1', b2', op'⟩ : C7)) HTc.out HTI.out⟩⟩
end
end Go.Proofs.YtkbmolodljenjaaDoor
