import Derived.Test.YtgoebckimmofoaaDoorP10
import Derived.Test.YtgoebckimmofoaaDoorP11
import Derived.MapKept
import Derived.Lib.Bytealg
import Derived.Deep.RegionLaw
import Derived.Deep.RegionHeld3
import Derived.Lib.IndexLaws
/- What stays while texts are read, and what function values mean. Our own text. -/
namespace Go.Proofs.YtgoebckimmofoaaDoor
open Go.RowKit Go.Lib

/-- Types of blocks that may change whenever: readers, machines, what else is written. -/
def soft (t : TypeId) : Bool := [81, 74, 116, 64, 900018, 900012, 900009, 900010, 900011, 900008, 900010, 900011, 900010, 33].contains t
/-- Types of rows that grow from some block on. -/
def grows (t : TypeId) : Bool := [137, 160].contains t
/-- Blocks stay, but for these: of the growing rows the ones below N. -/
structure Kp (N : Nat) (w w' : World) : Prop where
  size : w.heap.size ≤ w'.heap.size
  keep : ∀ k cs (t : TypeId) fz, w.heap[k]? = some (.cells cs t fz) → cs ≠ #[Value.nilFunc] → soft t = false → (grows t = true → k < N) → w'.heap[k]? = w.heap[k]?
theorem Kp.refl (N : Nat) (w : World) : Kp N w w := ⟨Nat.le_refl _, fun _ _ _ _ _ _ _ _ => rfl⟩
theorem Kp.trans {N : Nat} {a b c : World} (h : Kp N a b) (k : Kp N b c) : Kp N a c :=
  ⟨Nat.le_trans h.size k.size, fun i cs t fz hc hn h1 h2 => (k.keep i cs t fz ((h.keep i cs t fz hc hn h1 h2).trans hc) hn h1 h2).trans (h.keep i cs t fz hc hn h1 h2)⟩
theorem Kp.mono {N M : Nat} {a b : World} (h : Kp N a b) (hm : M ≤ N) : Kp M a b :=
  ⟨h.size, fun i cs t fz hc hn h1 h2 => h.keep i cs t fz hc hn h1 (fun e => Nat.lt_of_lt_of_le (h2 e) hm)⟩
theorem Kp.of_below {N : Nat} {w w' : World} (h : Below w.heap.size w w') : Kp N w w' :=
  ⟨h.size, fun k _ _ _ hc _ _ _ => h.block k (lt_of_block hc)⟩
theorem Kp.of_ex {N B : Nat} {w w' : World} {cs : Array Value} {ty : TypeId} {fz : Nat × Nat} (h : Ex B w w') (hB : w.heap[B]? = some (.cells cs ty fz)) (hs : soft ty = true) : Kp N w w' :=
  ⟨h.size, fun k cs' t fz' hc _ h1 _ => h.block k (lt_of_block hc) (fun e => by subst e; rw [hB] at hc; simp at hc; obtain ⟨_, rfl, _⟩ := hc; rw [hs] at h1; cases h1)⟩
theorem Kp.alloc (N : Nat) (w : World) (o : Obj) : Kp N w (w.alloc o) := Kp.of_below ((Below.refl _ _).alloc (Nat.le_refl _) _)
/-- A row of function values that grows: it lies at or beyond N. -/
theorem Kp.grown {N : Nat} {w w' : World} {e size n base : Nat} {v : Value} {xs : List Value} (ho : w.ownsRow base e size v n xs) (he : soft e = true ∨ (grows e = true ∧ N ≤ base)) (g : w.grownBy w' v.ownBlock) : Kp N w w' := by
  refine ⟨g.size, fun k cs t fz hc _ h1 h2 => g.block k (lt_of_block hc) (fun e' => ?_)⟩
  rcases ho.2 with ⟨rfl, _⟩ | ⟨g', cap, cur, rfl, hb, hg, _⟩
  · simp [Value.ownBlock] at e'
  · obtain rfl : k = g' := by simpa [Value.ownBlock] using e'
    rw [hg] at hc
    simp at hc
    obtain ⟨_, rfl, _⟩ := hc
    rcases he with he | ⟨he, hN⟩
    · rw [he] at h1; cases h1
    · have := h2 he; omega
/-- A store into a block of a soft type. -/
theorem Kp.softSet {N : Nat} {w : World} {cs : Array Value} {ty : TypeId} {fz : Nat × Nat} {p : Addr} (hB : w.heap[p.block]? = some (.cells cs ty fz)) (hs : soft ty = true) (v : Value) : Kp N w (w.setCell p v) :=
  Kp.of_ex (B := p.block) ((Ex.refl p.block w).setCell (.inl rfl) v) hB hs

/-- A function value on a state. -/
def FnK (N : Nat) (w : World) (v : Value) (R : Nat → Value) : Prop :=
  ∃ (fn : Nat) (caps : Array Value), v = .func (.func fn) #[] caps ∧ (∀ args w, (callFunc fn args).run Tryd.prog w = .ok (.enter fn args) w) ∧
    ∀ W, Kp N w W → 0 < W.heap.size → Tab W → ∀ x, x < 64 → Calls Tryd.prog fn (#[.int .u8 (x : Nat)] ++ caps) W fun e W' => e = .returned (R x) ∧ Below W.heap.size W W'
theorem FnK.kp {N : Nat} {w w' : World} {v : Value} {R : Nat → Value} (h : FnK N w v R) (k : Kp N w w') : FnK N w' v R := by
  obtain ⟨fn, caps, h1, h2, h3⟩ := h
  exact ⟨fn, caps, h1, h2, fun W hW => h3 W (k.trans hW)⟩
theorem FnK.up {N N' : Nat} {w w' : World} {v : Value} {R : Nat → Value} (h : FnK N w v R) (k : Kp N w w') (hn : N ≤ N') : FnK N' w' v R := by
  obtain ⟨fn, caps, h1, h2, h3⟩ := h
  exact ⟨fn, caps, h1, h2, fun W hW => h3 W (k.trans (hW.mono hn))⟩
/-- One on a state and a set of states. -/
def FnK2 (w : World) (v : Value) (R : Nat → Nat → Value) : Prop :=
  ∃ (fn : Nat) (caps : Array Value), v = .func (.func fn) #[] caps ∧ (∀ args w, (callFunc fn args).run Tryd.prog w = .ok (.enter fn args) w) ∧
    ∀ W, Kp 0 w W → 0 < W.heap.size → Tab W → ∀ x m, x < 64 → m < 18446744073709551616 → Calls Tryd.prog fn (#[.int .u8 (x : Nat), .int .u64 (m : Nat)] ++ caps) W fun e W' => e = .returned (R x m) ∧ Below W.heap.size W W'
theorem FnK2.kp {w w' : World} {v : Value} {R : Nat → Nat → Value} (h : FnK2 w v R) (k : Kp 0 w w') : FnK2 w' v R := by
  obtain ⟨fn, caps, h1, h2, h3⟩ := h
  exact ⟨fn, caps, h1, h2, fun W hW => h3 W (k.trans hW)⟩
/-- A box of another type than those stays. -/
theorem Kp.box {N b : Nat} {w W : World} {v : Value} {t : TypeId} (h : Kp N w W) (hb : w.heap[b]? = some (.cells #[v] t (0, 0))) (h1 : soft t = false := by decide) (h2 : grows t = false := by decide) (hv : v ≠ .nilFunc := by simp) : W.heap[b]? = some (.cells #[v] t (0, 0)) :=
  (h.keep b _ t _ hb (by simpa using hv) h1 (fun e => by rw [h2] at e; cases e)).trans hb
theorem box_cell {b : Nat} {W : World} {v : Value} {t : TypeId} (h : W.heap[b]? = some (.cells #[v] t (0, 0))) : W.cell? ⟨b, 0, none⟩ = some v := by simp [World.cell?, h]
/-- A box that was empty is filled. -/
theorem Kp.fill {N b : Nat} {w : World} {t : TypeId} (v : Value) (h : w.heap[b]? = some (.cells #[Value.nilFunc] t (0, 0))) : Kp N w (w.setCell ⟨b, 0, none⟩ v) := by
  refine ⟨by simp, fun k cs t' fz hc hn _ _ => heap_setCell_other _ _ _ _ (fun e => ?_)⟩
  have e' : k = b := e
  subst e'
  rw [h] at hc
  simp at hc
  exact hn hc.1.symm
/-- A row of function values that lies below N stays. -/
theorem Kp.row {N base e n : Nat} {w W : World} {v : Value} {xs : List Value} (h : Kp N w W) (he : soft e = false) (ho : w.ownsRow base e 1 v n xs) (hN : w.heap.size ≤ N) (h0 : ∃ f a, xs[0]? = some (.func f #[] a)) : W.ownsRow base e 1 v n xs := by
  refine ⟨ho.1, ?_⟩
  rcases ho.2 with hn | ⟨g, cap, cur, rfl, hb, hg, r1, r2, r3, r4⟩
  · exact .inl hn
  · refine .inr ⟨g, cap, cur, rfl, hb, (h.keep g cur e _ hg ?_ he (fun _ => Nat.lt_of_lt_of_le (lt_of_block hg) hN)).trans hg, r1, r2, r3, r4⟩
    rintro rfl
    obtain ⟨f, a, hx⟩ := h0
    rw [← r4, List.getElem?_take] at hx
    split at hx
    · simp at hx
    · cases hx

/-- The term that stands at a place. -/
def tmOf (s : ByteArray) (p : Nat) : Tm := match num? s p 97 0 2 with
  | some k => ((k : Int), 0, (p : Int))
  | none => match num? s p 48 0 3 with
    | some k => (-1, (k : Int), (p : Int))
    | none => (0, 0, 0)
theorem num_disj' {s : ByteArray} {p k : Nat} (h : num? s p 97 0 2 = some k) : num? s p 48 0 3 = none := by
  unfold num? at *
  split
  · next hl => rw [dif_pos hl] at h; split at h
               · rw [if_neg (by omega)]
               · cases h
  · rfl
theorem num_disj {s : ByteArray} {p k : Nat} (h : num? s p 48 0 3 = some k) : num? s p 97 0 2 = none := by
  cases h2 : num? s p 97 0 2 with
  | none => rfl
  | some j => rw [num_disj' h2] at h; cases h
theorem tmV_digit {s : ByteArray} {p k : Nat} (h : num? s p 48 0 3 = some k) (y : Nat) : tmV (tmOf s p) y = k := by
  unfold tmOf; rw [num_disj h, h]; unfold tmV; rw [if_pos (by simp)]; simp
theorem tmV_name {s : ByteArray} {p k : Nat} (h : num? s p 97 0 2 = some k) (y : Nat) : tmV (tmOf s p) y = dig y k := by
  unfold tmOf; rw [h]; unfold tmV; rw [if_neg (by simp)]; simp
theorem tmV_le3 (s : ByteArray) (p y : Nat) : tmV (tmOf s p) y ≤ 3 := by
  have hd : ∀ a k, dig a k ≤ 3 := fun a k => by unfold dig; omega
  cases h : num? s p 48 0 3 with
  | some k => rw [tmV_digit h]; exact (num_le h).2
  | none =>
    cases h2 : num? s p 97 0 2 with
    | some k => rw [tmV_name h2]; exact hd _ _
    | none => unfold tmOf; rw [h2, h]; unfold tmV; split <;> first | exact Nat.zero_le _ | exact hd _ _

theorem term1_any (k b : Nat) (x : Int) (W : World) (hb : W.heap[b]? = some (.cells #[.int .i64 k] 3 (0, 0))) : Calls Tryd.prog 89 #[.int .u8 x, .pointer (some ⟨b, 0, none⟩)] W fun e W' => e = .returned (.int .i64 (k : Nat)) ∧ W' = W := by
  have c := box_cell hb
  go_enter Tryd.func89, Tryd.ntmps89
  go_wp2
  go_ret
  exact ⟨rfl, rfl⟩
theorem term2_any (k b x : Nat) (hx : x < 64) (hk : k < 3) (W : World) (hb : W.heap[b]? = some (.cells #[.int .i64 k] 3 (0, 0))) : Calls Tryd.prog 90 #[.int .u8 (x : Nat), .pointer (some ⟨b, 0, none⟩)] W fun e W' => e = .returned (.int .i64 (dig x k : Nat)) ∧ W' = W := by
  have c := box_cell hb
  go_enter Tryd.func90, Tryd.ntmps90
  go_wp2_with fail
  refine (value_any x k hx hk W).mono ?_
  rintro e w' ⟨rfl, rfl⟩
  go_wp2
  go_ret
  exact ⟨rfl, rfl⟩

def pTerm (s : ByteArray) (t : T) : Option T :=
  match num? s t.at_ 48 0 3 with
  | some _ => some t.adv
  | none => match num? s t.at_ 97 0 2 with
    | some k => some (t.named k)
    | none => none
section
variable {B M : Nat} {ty : TypeId} {rest : List Value} {s : ByteArray} {t : T} {w : World}
theorem term_no (hs : s.size ≤ 120) (hat : t.at_ ≤ s.size) (hb : RG B M ty rest s t w) (hn : pTerm s t = none) :
    Calls Tryd.prog 81 #[.pointer (some ⟨B, 0, none⟩)] w fun e w' => e = .returned (.tuple #[.nilFunc, .bool false]) ∧ RG B M ty rest s t w' ∧ Ex B w w' := by
  unfold pTerm at hn
  cases h1 : num? s t.at_ 48 0 3 with
  | some k => simp [h1] at hn
  | none =>
    cases h2 : num? s t.at_ 97 0 2 with
    | some k => simp [h1, h2] at hn
    | none =>
      clear hn
      have hmf : ∀ (fn : Fn) (first cap : Array Value) (w : World), (Instr.makeFunc fn first cap).run Tryd.prog w = .ok (.func fn first cap) w := fun _ _ _ _ => rfl
      go_enter Tryd.func81, Tryd.ntmps81
      go_wp2_with fail
      refine (digit_no0 0 hs hat (by omega) hb h1).mono ?_; rintro e w1 ⟨rfl, hb1, hx1⟩
      go_wp2_with fail
      refine (name_no0 hs hat (hb1.alloc _) h2).mono ?_; rintro e w2 ⟨rfl, hb2, hx2⟩
      go_wp2
      go_ret2
      exact ⟨rfl, hb2.alloc _, ((hx1.alloc _).trans hx2).alloc _⟩
set_option maxHeartbeats 800000 in
theorem term_yes {t' : T} (hs : s.size ≤ 120) (hat : t.at_ ≤ s.size) (hb : RG B M ty rest s t w) (hn : pTerm s t = some t') :
    Calls Tryd.prog 81 #[.pointer (some ⟨B, 0, none⟩)] w fun e w' => (∃ f a, e = .returned (.tuple #[.func f #[] a, .bool true]) ∧ FnK 0 w' (.func f #[] a) (fun x => .int .i64 (tmV (tmOf s t.at_) x : Nat))) ∧ RG B M ty rest s t' w' ∧ Ex B w w' := by
  unfold pTerm at hn
  have hmf : ∀ (fn : Fn) (first cap : Array Value) (w : World), (Instr.makeFunc fn first cap).run Tryd.prog w = .ok (.func fn first cap) w := fun _ _ _ _ => rfl
  cases h1 : num? s t.at_ 48 0 3 with
  | some k =>
    simp [h1] at hn; subst hn
    have HV : Put (∀ y, tmV (tmOf s t.at_) y = k) := ⟨tmV_digit h1⟩
    go_enter Tryd.func81, Tryd.ntmps81
    go_wp2_with fail
    refine (digit_yes0 0 k hs (by omega) hb h1).mono ?_; rintro e w1 ⟨rfl, hb1, hx1⟩
    go_wp2
    go_ret2
    refine ⟨⟨_, _, rfl, ⟨89, #[.pointer (some ⟨w1.heap.size, 0, none⟩)], rfl, enters_of Tryd.func89 (by kernel_rfl) rfl, fun W hW _ _ y hy => ?_⟩⟩, hb1.alloc _, hx1.alloc _⟩
    have hbx := hW.box (heap_alloc_new w1 (.cells #[.int .i64 k] 3))
    show Calls _ _ _ _ fun e W' => e = .returned (.int .i64 ((tmV (tmOf s t.at_) y : Nat) : Int)) ∧ _
    rw [HV.out]
    refine (term1_any k w1.heap.size _ W hbx).mono ?_
    rintro e W' ⟨rfl, rfl⟩
    exact ⟨rfl, Below.refl _ _⟩
  | none =>
    cases h2 : num? s t.at_ 97 0 2 with
    | some k =>
      simp [h1, h2] at hn; subst hn
      have hk2 := (num_le h2).2
      have HV : Put (∀ y, tmV (tmOf s t.at_) y = dig y k) := ⟨tmV_name h2⟩
      go_enter Tryd.func81, Tryd.ntmps81
      go_wp2_with fail
      refine (digit_no0 0 hs hat (by omega) hb h1).mono ?_; rintro e w1 ⟨rfl, hb1, hx1⟩
      go_wp2_with fail
      refine (name_yes0 k hs (hb1.alloc _) h2).mono ?_; rintro e w2 ⟨rfl, hb2, hx2⟩
      go_wp2
      go_ret2
      refine ⟨⟨_, _, rfl, ⟨90, #[.pointer (some ⟨w2.heap.size, 0, none⟩)], rfl, enters_of Tryd.func90 (by kernel_rfl) rfl, fun W hW _ _ y hy => ?_⟩⟩, hb2.alloc _, ((hx1.alloc _).trans hx2).alloc _⟩
      have hbx := hW.box (heap_alloc_new w2 (.cells #[.int .i64 k] 3))
      show Calls _ _ _ _ fun e W' => e = .returned (.int .i64 ((tmV (tmOf s t.at_) y : Nat) : Int)) ∧ _
      rw [HV.out]
      refine (term2_any k w2.heap.size y hy (by omega) W hbx).mono ?_
      rintro e W' ⟨rfl, rfl⟩
      exact ⟨rfl, Below.refl _ _⟩
    | none => simp [h1, h2] at hn
end
end Go.Proofs.YtgoebckimmofoaaDoor

/- Conditions as they are read: the signs, what they make. Our own text. -/
namespace Go.Proofs.YtgoebckimmofoaaDoor
open Go.RowKit Go.Lib

/-! A map from bytes to function values. -/
theorem run_put (r : Nat) (es : Array MapEntry) (clock k : Nat) (v : Value) (W : World) (hb : W.heap[r]? = some (.map es clock)) (hk : ∀ x ∈ es.toList, MapKept.IsKey (.int .u8) x.key ∧ x.key ≠ .int .u8 k) :
    (Instr.mapUpdate 164 (.map (some r)) (.int .u8 k) v).run Tryd.prog W = .ok () { W with heap := W.heap.setIfInBounds r (.map (es.push { key := .int .u8 k, val := v, born := clock }) (clock + 1)) } := by
  have hk0 : MapKept.IsKey (.int .u8) (.int .u8 k) := by trivial
  rcases MapKept.findNow_spec hk0 es.toList 0 (fun x hx => (hk x hx).1) with ⟨h1, h2⟩ | ⟨j, e, h1, h2, h3⟩
  · simp [Instr.mapUpdate, run_underlying Tryd.underlying164, MapKept.run_getObj_map hb, MapKept.run_checkKey Tryd.underlying5 hk0, MapKept.run_findKey Tryd.underlying5 h1, MapKept.run_setObj_map _ hb, Result.andThen]
  · exact absurd h3 (hk e (List.mem_of_getElem? (by simpa using h2))).2
theorem run_get (r : Nat) (es : Array MapEntry) (clock k : Nat) (v : Value) (W : World) (hb : W.heap[r]? = some (.map es clock)) (hk : ∀ x ∈ es.toList, MapKept.IsKey (.int .u8) x.key ∧ (x.key = .int .u8 k → x.val = v)) (hin : ∃ x ∈ es.toList, x.key = .int .u8 k) :
    (Instr.lookup 164 (.map (some r)) (.int .u8 k) false).run Tryd.prog W = .ok v W := by
  have hk0 : MapKept.IsKey (.int .u8) (.int .u8 k) := by trivial
  rcases MapKept.findNow_spec hk0 es.toList 0 (fun x hx => (hk x hx).1) with ⟨h1, h2⟩ | ⟨j, e, h1, h2, h3⟩
  · obtain ⟨x, hx, he⟩ := hin
    exact absurd he (h2 x hx)
  · have hv := (hk e (List.mem_of_getElem? (by simpa using h2))).2 h3
    rw [hv] at h1
    simp [Instr.lookup, run_underlying Tryd.underlying164, MapKept.run_getObj_map hb, MapKept.run_checkKey Tryd.underlying5 hk0, MapKept.run_findKey Tryd.underlying5 h1, Result.andThen]
/-- The entries of a list of signs and functions, the last one put in first of the list. -/
def entsOf : List (Nat × Nat) → List MapEntry
  | [] => []
  | e :: l => entsOf l ++ [{ key := .int .u8 e.1, val := .func (.func e.2) #[] #[], born := l.length }]
def MapAt (W : World) (r : Nat) (l : List (Nat × Nat)) : Prop := W.heap[r]? = some (.map (entsOf l).toArray l.length)
theorem entsOf_mem {x : MapEntry} : ∀ {l : List (Nat × Nat)}, x ∈ entsOf l → ∃ e ∈ l, x.key = .int .u8 e.1 ∧ x.val = .func (.func e.2) #[] #[]
  | e :: l, h => by
    unfold entsOf at h
    rcases List.mem_append.1 h with h | h
    · obtain ⟨e', h1, h2⟩ := entsOf_mem h
      exact ⟨e', by simp [h1], h2⟩
    · simp at h; subst h; exact ⟨e, by simp, rfl, rfl⟩
theorem mem_entsOf {e : Nat × Nat} : ∀ {l : List (Nat × Nat)}, e ∈ l → ∃ x ∈ entsOf l, x.key = .int .u8 e.1
  | a :: l, h => by
    rcases List.mem_cons.1 h with rfl | h
    · exact ⟨{ key := .int .u8 e.1, val := .func (.func e.2) #[] #[], born := l.length }, by unfold entsOf; simp, rfl⟩
    · obtain ⟨x, h1, h2⟩ := mem_entsOf h
      exact ⟨x, by unfold entsOf; simp [h1], h2⟩
theorem put_map {W : World} {r : Nat} {l : List (Nat × Nat)} (h : MapAt W r l) (k f : Nat) (hk : ∀ e ∈ l, e.1 ≠ k) :
    ∃ W', (Instr.mapUpdate 164 (.map (some r)) (.int .u8 k) (.func (.func f) #[] #[])).run Tryd.prog W = .ok () W' ∧ MapAt W' r ((k, f) :: l) ∧ Ex r W W' := by
  refine ⟨_, run_put r _ _ k _ W h ?_, ?_, ?_⟩
  · intro x hx
    obtain ⟨e, he, h1, h2⟩ := entsOf_mem (l := l) (by simpa using hx)
    rw [h1]
    refine ⟨by trivial, ?_⟩
    intro h3
    simp at h3
    exact hk e he (by omega)
  · unfold MapAt
    have := (MapKept.heap_set (o' := .map ((entsOf l).toArray.push { key := .int .u8 k, val := .func (.func f) #[] #[], born := l.length }) (l.length + 1)) h).1
    simpa [entsOf] using this
  · exact ⟨rfl, rfl, rfl, by simp, fun i _ hi => (MapKept.heap_set h).2 i hi⟩
theorem get_map {W : World} {r : Nat} {l : List (Nat × Nat)} (h : MapAt W r l) (k f : Nat) (hin : (k, f) ∈ l) (hu : ∀ e ∈ l, e.1 = k → e.2 = f) :
    (Instr.lookup 164 (.map (some r)) (.int .u8 k) false).run Tryd.prog W = .ok (.func (.func f) #[] #[]) W := by
  refine run_get r _ _ k _ W h ?_ ?_
  · intro x hx
    obtain ⟨e, he, h1, h2⟩ := entsOf_mem (l := l) (by simpa using hx)
    rw [h1]
    refine ⟨by trivial, ?_⟩
    intro h3
    simp at h3
    rw [h2, hu e he (by omega)]
  · obtain ⟨x, h1, h2⟩ := mem_entsOf hin
    exact ⟨x, by simpa using h1, h2⟩

theorem equals_any (a b : Value) (ha : a.oneCell' = true) (hb : b.oneCell' = true) (w : World) :
    Calls Tryd.prog 92 #[a, b] w fun e w' => e = .returned (.func (.func 96) #[] #[.pointer (some ⟨w.heap.size, 0, none⟩), .pointer (some ⟨w.heap.size + 1, 0, none⟩)]) ∧ w' = (w.alloc (.cells #[a] 153)).alloc (.cells #[b] 153) := by
  have hmf : ∀ (fn : Fn) (first cap : Array Value) (w : World), (Instr.makeFunc fn first cap).run Tryd.prog w = .ok (.func fn first cap) w := fun _ _ _ _ => rfl
  go_enter Tryd.func92, Tryd.ntmps92
  go_wp2
  go_ret
  exact ⟨rfl, rfl⟩
theorem differs_any (a b : Value) (ha : a.oneCell' = true) (hb : b.oneCell' = true) (w : World) :
    Calls Tryd.prog 93 #[a, b] w fun e w' => e = .returned (.func (.func 97) #[] #[.pointer (some ⟨w.heap.size, 0, none⟩), .pointer (some ⟨w.heap.size + 1, 0, none⟩)]) ∧ w' = (w.alloc (.cells #[a] 153)).alloc (.cells #[b] 153) := by
  have hmf : ∀ (fn : Fn) (first cap : Array Value) (w : World), (Instr.makeFunc fn first cap).run Tryd.prog w = .ok (.func fn first cap) w := fun _ _ _ _ => rfl
  go_enter Tryd.func93, Tryd.ntmps93
  go_wp2
  go_ret
  exact ⟨rfl, rfl⟩
theorem isBelow_any (a b : Value) (ha : a.oneCell' = true) (hb : b.oneCell' = true) (w : World) :
    Calls Tryd.prog 94 #[a, b] w fun e w' => e = .returned (.func (.func 98) #[] #[.pointer (some ⟨w.heap.size, 0, none⟩), .pointer (some ⟨w.heap.size + 1, 0, none⟩)]) ∧ w' = (w.alloc (.cells #[a] 153)).alloc (.cells #[b] 153) := by
  have hmf : ∀ (fn : Fn) (first cap : Array Value) (w : World), (Instr.makeFunc fn first cap).run Tryd.prog w = .ok (.func fn first cap) w := fun _ _ _ _ => rfl
  go_enter Tryd.func94, Tryd.ntmps94
  go_wp2
  go_ret
  exact ⟨rfl, rfl⟩

set_option maxRecDepth 100000 in
set_option maxHeartbeats 1600000 in
theorem equals1_any (bl br y : Nat) (hy : y < 64) (vl vr : Value) (L R : Nat → Nat) (w W : World) (hW : Kp 0 w W) (h0 : 0 < W.heap.size) (hT : Tab W) (hl : FnK 0 w vl (fun x => .int .i64 (L x : Nat))) (hr : FnK 0 w vr (fun x => .int .i64 (R x : Nat)))
    (b2 : W.heap[bl]? = some (.cells #[vl] 153 (0, 0))) (b3 : W.heap[br]? = some (.cells #[vr] 153 (0, 0))) :
    Calls Tryd.prog 96 #[.int .u8 (y : Nat), .pointer (some ⟨bl, 0, none⟩), .pointer (some ⟨br, 0, none⟩)] W fun e W' => e = .returned (.bool (cmpP 61 (L y) (R y))) ∧ Below W.heap.size W W' := by
  obtain ⟨fl, cl, rfl, el, kl⟩ := hl
  obtain ⟨fr, cr, rfl, er, kr⟩ := hr
  have c2 := box_cell b2
  have c3 := box_cell b3
  have hL : ∀ W2, Below W.heap.size W W2 → Calls Tryd.prog fl (#[.int .u8 (y : Nat)] ++ cl) W2 fun e W' => e = .returned (.int .i64 ((L y : Nat) : Int)) ∧ Below W2.heap.size W2 W' := fun W2 h2 => kl W2 (hW.trans (Kp.of_below h2)) (Nat.lt_of_lt_of_le h0 h2.size) (hT.below h2 h0) y hy
  have hR : ∀ W2, Below W.heap.size W W2 → Calls Tryd.prog fr (#[.int .u8 (y : Nat)] ++ cr) W2 fun e W' => e = .returned (.int .i64 ((R y : Nat) : Int)) ∧ Below W2.heap.size W2 W' := fun W2 h2 => kr W2 (hW.trans (Kp.of_below h2)) (Nat.lt_of_lt_of_le h0 h2.size) (hT.below h2 h0) y hy
  have l2 := lt_of_block b2
  have l3 := lt_of_block b3
  generalize L y = a at *
  generalize R y = b at *
  have hC : cmpP 61 a b = ((a : Int) == (b : Int)) := (cmpP_same (op := 61) rfl rfl rfl).symm
  have HC : Put (_ = _) := ⟨hC⟩
  clear b2 b3 kl kr hW hC
  have hdr : Below W.heap.size W W.drew := ⟨rfl, rfl, rfl, Nat.le_refl _, fun _ _ => rfl⟩
  have HL : Put (_) := ⟨hL⟩
  have HR : Put (_) := ⟨hR⟩
  clear hL hR hT
  rw [HC.out]
  go_enter Tryd.func96, Tryd.ntmps96
  go_wp2_with fail
  go_region_held3 (fun w' => ∀ b o, b < W.heap.size → w'.cell? ⟨b, o, none⟩ = W.cell? ⟨b, o, none⟩)
    (first
      | exact fun b o hb => (hbR'.cell (p := ⟨b, o, none⟩) hb)
      | exact fun b o hb => (hbL'.cell (p := ⟨b, o, none⟩) hb)
      | exact fun _ _ _ => rfl
      | go_keep)
    (first
      | (with_reducible refine (HR.out wL hbL').mono ?_; rintro e wR ⟨rfl, hbR⟩; have hbR' : Below W.heap.size W wR := hbL'.trans (hbR.mono hbL'.size))
      | (refine (HL.out W.drew hdr).mono ?_; rintro e wL ⟨rfl, hbL⟩; have hbL' : Below W.heap.size W wL := hdr.trans hbL))
  all_goals
    go_wp2
    go_ret
    exact ⟨rfl, hbR'⟩
set_option maxRecDepth 100000 in
set_option maxHeartbeats 1600000 in
theorem differs1_any (bl br y : Nat) (hy : y < 64) (vl vr : Value) (L R : Nat → Nat) (w W : World) (hW : Kp 0 w W) (h0 : 0 < W.heap.size) (hT : Tab W) (hl : FnK 0 w vl (fun x => .int .i64 (L x : Nat))) (hr : FnK 0 w vr (fun x => .int .i64 (R x : Nat)))
    (b2 : W.heap[bl]? = some (.cells #[vl] 153 (0, 0))) (b3 : W.heap[br]? = some (.cells #[vr] 153 (0, 0))) :
    Calls Tryd.prog 97 #[.int .u8 (y : Nat), .pointer (some ⟨bl, 0, none⟩), .pointer (some ⟨br, 0, none⟩)] W fun e W' => e = .returned (.bool (cmpP 35 (L y) (R y))) ∧ Below W.heap.size W W' := by
  obtain ⟨fl, cl, rfl, el, kl⟩ := hl
  obtain ⟨fr, cr, rfl, er, kr⟩ := hr
  have c2 := box_cell b2
  have c3 := box_cell b3
  have hL : ∀ W2, Below W.heap.size W W2 → Calls Tryd.prog fl (#[.int .u8 (y : Nat)] ++ cl) W2 fun e W' => e = .returned (.int .i64 ((L y : Nat) : Int)) ∧ Below W2.heap.size W2 W' := fun W2 h2 => kl W2 (hW.trans (Kp.of_below h2)) (Nat.lt_of_lt_of_le h0 h2.size) (hT.below h2 h0) y hy
  have hR : ∀ W2, Below W.heap.size W W2 → Calls Tryd.prog fr (#[.int .u8 (y : Nat)] ++ cr) W2 fun e W' => e = .returned (.int .i64 ((R y : Nat) : Int)) ∧ Below W2.heap.size W2 W' := fun W2 h2 => kr W2 (hW.trans (Kp.of_below h2)) (Nat.lt_of_lt_of_le h0 h2.size) (hT.below h2 h0) y hy
  have l2 := lt_of_block b2
  have l3 := lt_of_block b3
  generalize L y = a at *
  generalize R y = b at *
  have hC : cmpP 35 a b = ((a : Int) != (b : Int)) := (cmpP_same (op := 35) rfl rfl rfl).symm
  have HC : Put (_ = _) := ⟨hC⟩
  clear b2 b3 kl kr hW hC
  have hdr : Below W.heap.size W W.drew := ⟨rfl, rfl, rfl, Nat.le_refl _, fun _ _ => rfl⟩
  have HL : Put (_) := ⟨hL⟩
  have HR : Put (_) := ⟨hR⟩
  clear hL hR hT
  rw [HC.out]
  go_enter Tryd.func97, Tryd.ntmps97
  go_wp2_with fail
  go_region_held3 (fun w' => ∀ b o, b < W.heap.size → w'.cell? ⟨b, o, none⟩ = W.cell? ⟨b, o, none⟩)
    (first
      | exact fun b o hb => (hbR'.cell (p := ⟨b, o, none⟩) hb)
      | exact fun b o hb => (hbL'.cell (p := ⟨b, o, none⟩) hb)
      | exact fun _ _ _ => rfl
      | go_keep)
    (first
      | (with_reducible refine (HR.out wL hbL').mono ?_; rintro e wR ⟨rfl, hbR⟩; have hbR' : Below W.heap.size W wR := hbL'.trans (hbR.mono hbL'.size))
      | (refine (HL.out W.drew hdr).mono ?_; rintro e wL ⟨rfl, hbL⟩; have hbL' : Below W.heap.size W wL := hdr.trans hbL))
  all_goals
    go_wp2
    go_ret
    exact ⟨rfl, hbR'⟩
set_option maxRecDepth 100000 in
set_option maxHeartbeats 1600000 in
theorem isBelow1_any (bl br y : Nat) (hy : y < 64) (vl vr : Value) (L R : Nat → Nat) (w W : World) (hW : Kp 0 w W) (h0 : 0 < W.heap.size) (hT : Tab W) (hl : FnK 0 w vl (fun x => .int .i64 (L x : Nat))) (hr : FnK 0 w vr (fun x => .int .i64 (R x : Nat)))
    (b2 : W.heap[bl]? = some (.cells #[vl] 153 (0, 0))) (b3 : W.heap[br]? = some (.cells #[vr] 153 (0, 0))) :
    Calls Tryd.prog 98 #[.int .u8 (y : Nat), .pointer (some ⟨bl, 0, none⟩), .pointer (some ⟨br, 0, none⟩)] W fun e W' => e = .returned (.bool (cmpP 60 (L y) (R y))) ∧ Below W.heap.size W W' := by
  obtain ⟨fl, cl, rfl, el, kl⟩ := hl
  obtain ⟨fr, cr, rfl, er, kr⟩ := hr
  have c2 := box_cell b2
  have c3 := box_cell b3
  have hL : ∀ W2, Below W.heap.size W W2 → Calls Tryd.prog fl (#[.int .u8 (y : Nat)] ++ cl) W2 fun e W' => e = .returned (.int .i64 ((L y : Nat) : Int)) ∧ Below W2.heap.size W2 W' := fun W2 h2 => kl W2 (hW.trans (Kp.of_below h2)) (Nat.lt_of_lt_of_le h0 h2.size) (hT.below h2 h0) y hy
  have hR : ∀ W2, Below W.heap.size W W2 → Calls Tryd.prog fr (#[.int .u8 (y : Nat)] ++ cr) W2 fun e W' => e = .returned (.int .i64 ((R y : Nat) : Int)) ∧ Below W2.heap.size W2 W' := fun W2 h2 => kr W2 (hW.trans (Kp.of_below h2)) (Nat.lt_of_lt_of_le h0 h2.size) (hT.below h2 h0) y hy
  have l2 := lt_of_block b2
  have l3 := lt_of_block b3
  generalize L y = a at *
  generalize R y = b at *
  have hC : cmpP 60 a b = decide ((a : Int) < (b : Int)) := (cmpP_same (op := 60) rfl rfl rfl).symm
  have HC : Put (_ = _) := ⟨hC⟩
  clear b2 b3 kl kr hW hC
  have hdr : Below W.heap.size W W.drew := ⟨rfl, rfl, rfl, Nat.le_refl _, fun _ _ => rfl⟩
  have HL : Put (_) := ⟨hL⟩
  have HR : Put (_) := ⟨hR⟩
  clear hL hR hT
  rw [HC.out]
  go_enter Tryd.func98, Tryd.ntmps98
  go_wp2_with fail
  go_region_held3 (fun w' => ∀ b o, b < W.heap.size → w'.cell? ⟨b, o, none⟩ = W.cell? ⟨b, o, none⟩)
    (first
      | exact fun b o hb => (hbR'.cell (p := ⟨b, o, none⟩) hb)
      | exact fun b o hb => (hbL'.cell (p := ⟨b, o, none⟩) hb)
      | exact fun _ _ _ => rfl
      | go_keep)
    (first
      | (with_reducible refine (HR.out wL hbL').mono ?_; rintro e wR ⟨rfl, hbR⟩; have hbR' : Below W.heap.size W wR := hbL'.trans (hbR.mono hbL'.size))
      | (refine (HL.out W.drew hdr).mono ?_; rintro e wL ⟨rfl, hbL⟩; have hbL' : Below W.heap.size W wL := hdr.trans hbL))
  all_goals
    go_wp2
    go_ret
    refine ⟨?_, hbR'⟩
    show Ending.returned (Value.bool (decide (a < b))) = Ending.returned (Value.bool (decide ((a : Int) < (b : Int))))
    congr 2
    rw [Bool.eq_iff_iff]; simp

set_option maxRecDepth 100000 in
set_option maxHeartbeats 1600000 in
theorem compare_any (k : Nat) (hk : k = 61 ∨ k = 35 ∨ k = 60) (fl fr : Fn) (cl cr : Array Value) (L R : Nat → Nat) (w : World) (hl : FnK 0 w (.func fl #[] cl) (fun x => .int .i64 (L x : Nat))) (hr : FnK 0 w (.func fr #[] cr) (fun x => .int .i64 (R x : Nat))) :
    Calls Tryd.prog 83 #[.int .u8 (k : Nat), .func fl #[] cl, .func fr #[] cr] w fun e w' => (∃ f c, e = .returned (.func f #[] c) ∧ FnK 0 w' (.func f #[] c) (fun x => .bool (cmpP k (L x) (R x)))) ∧ Below w.heap.size w w' := by
  have hmk : (Instr.makeMap 164 none).run Tryd.prog w = .ok (.map (some w.heap.size)) (w.alloc (.map #[] 0)) := by simp [Instr.makeMap, Result.andThen]
  have m0 : MapAt (w.alloc (.map #[] 0)) w.heap.size [] := heap_alloc_new w (.map #[] 0)
  obtain ⟨W1, r1, m1, x1⟩ := put_map m0 61 92 (by simp)
  change (Instr.mapUpdate 164 (.map (some w.heap.size)) (.int .u8 61) (.func (.func 92) #[] #[])).run Tryd.prog (w.alloc (.map #[] 0)) = .ok () W1 at r1
  obtain ⟨W2, r2, m2, x2⟩ := put_map m1 35 93 (by simp)
  change (Instr.mapUpdate 164 (.map (some w.heap.size)) (.int .u8 35) (.func (.func 93) #[] #[])).run Tryd.prog W1 = .ok () W2 at r2
  obtain ⟨W3, r3, m3, x3⟩ := put_map m2 60 94 (by simp)
  change (Instr.mapUpdate 164 (.map (some w.heap.size)) (.int .u8 60) (.func (.func 94) #[] #[])).run Tryd.prog W2 = .ok () W3 at r3
  have hB : Below w.heap.size w W3 := ((Below.refl _ w).alloc (Nat.le_refl _) _).trans (((x1.trans x2).trans x3).below (Nat.le_refl _) (by simp))
  have hl3 := hl.kp (Kp.of_below hB)
  have hr3 := hr.kp (Kp.of_below hB)
  have HB : Put (_) := ⟨hB⟩
  have HM : Put (_ ∧ _) := ⟨hl3, hr3⟩
  have hsz : w.heap.size ≤ W3.heap.size := hB.size
  clear m0 m1 m2 x1 x2 x3 hB hl hr hl3 hr3
  rcases hk with rfl | rfl | rfl
  · have g := get_map m3 61 92 (by simp) (by simp)
    change (Instr.lookup 164 (.map (some w.heap.size)) (.int .u8 61) false).run Tryd.prog W3 = .ok (.func (.func 92) #[] #[]) W3 at g
    show Calls Tryd.prog 83 #[.int .u8 61, .func fl #[] cl, .func fr #[] cr] w _
    have en := enters_of Tryd.func92 (by kernel_rfl) rfl
    clear m3
    go_enter Tryd.func83, Tryd.ntmps83
    go_wp2_with fail
    refine (equals_any (.func fl #[] cl) (.func fr #[] cr) rfl rfl W3).mono ?_
    rintro e w4 ⟨rfl, rfl⟩
    go_wp2
    go_ret
    refine ⟨⟨_, _, rfl, 96, _, rfl, enters_of Tryd.func96 (by kernel_rfl) rfl, fun W hW h0 hT y hy => ?_⟩, (HB.out.alloc hsz _).alloc (by simp; omega) _⟩
    have k0 := ((Kp.alloc 0 W3 (.cells #[.func fl #[] cl] 153)).trans (Kp.alloc 0 _ (.cells #[.func fr #[] cr] 153)))
    have bx1 := ((Kp.alloc 0 _ (.cells #[.func fr #[] cr] 153)).trans hW).box (heap_alloc_new W3 (.cells #[.func fl #[] cl] 153))
    have bx2 := hW.box (heap_alloc_new (W3.alloc (.cells #[.func fl #[] cl] 153)) (.cells #[.func fr #[] cr] 153))
    rw [World.size_alloc] at bx2
    exact equals1_any _ _ y hy _ _ L R W3 W (k0.trans hW) h0 hT HM.out.1 HM.out.2 bx1 bx2
  · have g := get_map m3 35 93 (by simp) (by simp)
    change (Instr.lookup 164 (.map (some w.heap.size)) (.int .u8 35) false).run Tryd.prog W3 = .ok (.func (.func 93) #[] #[]) W3 at g
    show Calls Tryd.prog 83 #[.int .u8 35, .func fl #[] cl, .func fr #[] cr] w _
    have en := enters_of Tryd.func93 (by kernel_rfl) rfl
    clear m3
    go_enter Tryd.func83, Tryd.ntmps83
    go_wp2_with fail
    refine (differs_any (.func fl #[] cl) (.func fr #[] cr) rfl rfl W3).mono ?_
    rintro e w4 ⟨rfl, rfl⟩
    go_wp2
    go_ret
    refine ⟨⟨_, _, rfl, 97, _, rfl, enters_of Tryd.func97 (by kernel_rfl) rfl, fun W hW h0 hT y hy => ?_⟩, (HB.out.alloc hsz _).alloc (by simp; omega) _⟩
    have k0 := ((Kp.alloc 0 W3 (.cells #[.func fl #[] cl] 153)).trans (Kp.alloc 0 _ (.cells #[.func fr #[] cr] 153)))
    have bx1 := ((Kp.alloc 0 _ (.cells #[.func fr #[] cr] 153)).trans hW).box (heap_alloc_new W3 (.cells #[.func fl #[] cl] 153))
    have bx2 := hW.box (heap_alloc_new (W3.alloc (.cells #[.func fl #[] cl] 153)) (.cells #[.func fr #[] cr] 153))
    rw [World.size_alloc] at bx2
    exact differs1_any _ _ y hy _ _ L R W3 W (k0.trans hW) h0 hT HM.out.1 HM.out.2 bx1 bx2
  · have g := get_map m3 60 94 (by simp) (by simp)
    change (Instr.lookup 164 (.map (some w.heap.size)) (.int .u8 60) false).run Tryd.prog W3 = .ok (.func (.func 94) #[] #[]) W3 at g
    show Calls Tryd.prog 83 #[.int .u8 60, .func fl #[] cl, .func fr #[] cr] w _
    have en := enters_of Tryd.func94 (by kernel_rfl) rfl
    clear m3
    go_enter Tryd.func83, Tryd.ntmps83
    go_wp2_with fail
    refine (isBelow_any (.func fl #[] cl) (.func fr #[] cr) rfl rfl W3).mono ?_
    rintro e w4 ⟨rfl, rfl⟩
    go_wp2
    go_ret
    refine ⟨⟨_, _, rfl, 98, _, rfl, enters_of Tryd.func98 (by kernel_rfl) rfl, fun W hW h0 hT y hy => ?_⟩, (HB.out.alloc hsz _).alloc (by simp; omega) _⟩
    have k0 := ((Kp.alloc 0 W3 (.cells #[.func fl #[] cl] 153)).trans (Kp.alloc 0 _ (.cells #[.func fr #[] cr] 153)))
    have bx1 := ((Kp.alloc 0 _ (.cells #[.func fr #[] cr] 153)).trans hW).box (heap_alloc_new W3 (.cells #[.func fl #[] cl] 153))
    have bx2 := hW.box (heap_alloc_new (W3.alloc (.cells #[.func fl #[] cl] 153)) (.cells #[.func fr #[] cr] 153))
    rw [World.size_alloc] at bx2
    exact isBelow1_any _ _ y hy _ _ L R W3 W (k0.trans hW) h0 hT HM.out.1 HM.out.2 bx1 bx2
end Go.Proofs.YtgoebckimmofoaaDoor

/- A condition, read; one of a sign's bytes. Our own text. -/
namespace Go.Proofs.YtgoebckimmofoaaDoor
open Go.RowKit Go.Lib

set_option maxRecDepth 100000 in
theorem IndexByte2_any (s : ByteArray) (c : Int) (w : World) : Calls Tryd.prog 95 #[.string s, .int .u8 c] w fun e w' => e = .returned (.int .i64 (indexByte s.data.toList c.toNat.toUInt8)) ∧ w' = w := by
  go_enter Tryd.func95, Tryd.ntmps95
  go_wp2
  rw [run_callFunc_extern Tryd.func99 (by kernel_rfl) (by kernel_rfl) (by kernel_rfl) (e := Extern.BytealgIndexByte.indexByte) (by kernel_rfl), Lib.run_indexByteString]
  simp only [Result.andThen]
  rw [Oper.upon_value]
  go_wp2
  go_ret
  exact ⟨rfl, rfl⟩
theorem IndexByte_any (s : ByteArray) (c : Int) (w : World) : Calls Tryd.prog 91 #[.string s, .int .u8 c] w fun e w' => e = .returned (.int .i64 (indexByte s.data.toList c.toNat.toUInt8)) ∧ w' = w := by
  go_enter Tryd.func91, Tryd.ntmps91
  go_wp2_with fail
  refine (IndexByte2_any s c w).mono ?_
  rintro e w' ⟨rfl, rfl⟩
  go_wp2
  go_ret
  exact ⟨rfl, rfl⟩

/-- The byte at a place is one of these. -/
def oneOf? (s : ByteArray) (p : Nat) (l : List UInt8) : Option Nat := if h : p < s.size then (if s[p] ∈ l then some s[p].toNat else none) else none
theorem indexByte_mem {l : List UInt8} {c : UInt8} : indexByte l c < 0 ↔ c ∉ l := by
  constructor
  · intro h hc
    have h1 : indexByte l c = -1 := by have := indexByte_ge l c; omega
    obtain ⟨i, hi⟩ := List.getElem?_of_mem hc
    exact indexByte_none h1 i hi
  · intro h
    have := indexByte_ge l c
    by_cases h1 : indexByte l c = -1
    · omega
    · exfalso
      obtain ⟨o, ho⟩ : ∃ o : Nat, indexByte l c = o := ⟨(indexByte l c).toNat, by omega⟩
      exact h (List.mem_of_getElem? (indexByte_some ho).1)

section
variable {B M : Nat} {ty : TypeId} {rest : List Value} {s : ByteArray} {t : T} {w : World}
set_option maxRecDepth 100000 in
set_option maxHeartbeats 1600000 in
theorem oneOf_no (l : ByteArray) (hat : t.at_ ≤ s.size) (hb : RG B M ty rest s t w) (hn : oneOf? s t.at_ l.data.toList = none) :
    Calls Tryd.prog 82 #[.pointer (some ⟨B, 0, none⟩), .string l] w fun e w' => e = .returned (.tuple #[.int .u8 0, .bool false]) ∧ RG B M ty rest s t w' ∧ Ex B w w' := by
  have HE : Put (∀ n, Calls Tryd.prog 51 #[.pointer (some ⟨B, 0, none⟩)] (w.drewN n) fun e w' => e = .returned (.bool (decide (t.at_ = s.size))) ∧ ∃ m, w' = (w.drewN n).drewN m) := ⟨fun n => atEnd_q hat (hb.drewN n)⟩
  have d0 := hb.c0
  have d1 := hb.c1
  have HB : Put (RG B M ty rest s t w) := ⟨hb⟩
  by_cases h : t.at_ = s.size
  · rw [decide_eq_true h] at HE
    clear hn hb hat
    rw [h] at d1
    go_enter Tryd.func82, Tryd.ntmps82
    go_wp2
    go_quiet ((go_at_call 51; exact Calls.quiet_of (HE.out _)))
    go_wp2
    go_ret2
    exact ⟨rfl, HB.out.drewN _, (Ex.refl _ _).drewN _⟩
  · rw [decide_eq_false h] at HE
    have hlt : t.at_ < s.size := by omega
    have i1 : (t.at_ : Int) < (s.size : Int) := by omega
    have i0 : (0 : Int) ≤ (t.at_ : Int) := by omega
    have hm : s[t.at_] ∉ l.data.toList := by
      unfold oneOf? at hn
      rw [dif_pos hlt] at hn
      split at hn
      · cases hn
      · assumption
    have hi := indexByte_mem.2 hm
    have HI : Put (∀ w, Calls Tryd.prog 91 #[.string l, .int .u8 (s[t.at_].toNat : Nat)] w fun e w' => e = .returned (.int .i64 (indexByte l.data.toList s[t.at_])) ∧ w' = w) := ⟨fun w => by
      have := IndexByte_any l ((s[t.at_].toNat : Nat) : Int) w
      simpa using this⟩
    generalize indexByte l.data.toList s[t.at_] = ix at *
    clear hn hm hat hb
    generalize t.at_ = p at *
    go_enter Tryd.func82, Tryd.ntmps82
    go_wp2
    go_quiet (first | (go_at_call 51; exact Calls.quiet_of (HE.out _)) | (go_at_call 91; exact Calls.quiet_of_same (HI.out _)))
    go_wp2
    go_ret2
    exact ⟨rfl, HB.out.drewN _, (Ex.refl _ _).drewN _⟩
set_option maxRecDepth 100000 in
set_option maxHeartbeats 1600000 in
theorem oneOf_yes (l : ByteArray) (k : Nat) (hs : s.size ≤ 120) (hb : RG B M ty rest s t w) (hn : oneOf? s t.at_ l.data.toList = some k) :
    Calls Tryd.prog 82 #[.pointer (some ⟨B, 0, none⟩), .string l] w fun e w' => e = .returned (.tuple #[.int .u8 k, .bool true]) ∧ RG B M ty rest s t.adv w' ∧ Ex B w w' := by
  have hlt : t.at_ < s.size := by
    unfold oneOf? at hn
    split at hn
    · assumption
    · cases hn
  have hm : s[t.at_] ∈ l.data.toList ∧ s[t.at_].toNat = k := by
    unfold oneOf? at hn
    rw [dif_pos hlt] at hn
    split at hn
    · next h => simp at hn; exact ⟨h, hn⟩
    · cases hn
  have HE : Put (∀ n, Calls Tryd.prog 51 #[.pointer (some ⟨B, 0, none⟩)] (w.drewN n) fun e w' => e = .returned (.bool (decide (t.at_ = s.size))) ∧ ∃ m, w' = (w.drewN n).drewN m) := ⟨fun n => atEnd_q (by omega) (hb.drewN n)⟩
  rw [decide_eq_false (by omega)] at HE
  have d0 := hb.c0
  have d1 := hb.c1
  have f1 := hb.free 1
  have HB : Put (RG B M ty rest s t.adv (w.setCell ⟨B, 1, none⟩ (.int .i64 ((t.at_ + 1 : Nat) : Int)))) := ⟨hb.set1 (t.at_ + 1)⟩
  have i1 : (t.at_ : Int) < (s.size : Int) := by omega
  have i0 : (0 : Int) ≤ (t.at_ : Int) := by omega
  have hi : ¬ indexByte l.data.toList s[t.at_] < 0 := fun h => indexByte_mem.1 h hm.1
  have HI : Put (∀ w, Calls Tryd.prog 91 #[.string l, .int .u8 (s[t.at_].toNat : Nat)] w fun e w' => e = .returned (.int .i64 (indexByte l.data.toList s[t.at_])) ∧ w' = w) := ⟨fun w => by
    have := IndexByte_any l ((s[t.at_].toNat : Nat) : Int) w
    simpa using this⟩
  generalize indexByte l.data.toList s[t.at_] = ix at *
  have HK : Put (s[t.at_].toNat = k) := ⟨hm.2⟩
  clear hn hm hb
  generalize t.at_ = p at *
  have j1 : (p : Int) + 1 - 1 = (p : Int) := by omega
  go_enter Tryd.func82, Tryd.ntmps82
  go_wp2
  go_quiet (first | (go_at_call 51; exact Calls.quiet_of (HE.out _)) | (go_at_call 91; exact Calls.quiet_of_same (HI.out _)))
  go_wp2
  go_quiet (fail)
  go_wp2
  go_ret2
  refine ⟨?_, ?_, ?_⟩
  · rw [← HK.out]; rfl
  · exact HB.out.move rfl rfl
  · exact ((((Ex.refl B w).drewN _).setCell (.inl rfl) _).drewN _)
end
end Go.Proofs.YtgoebckimmofoaaDoor
