import Derived.Test.YtgoebckimmofoaaGreatDoorA7
import Derived.MapKept
import Derived.Lib.Bytealg
import Derived.Deep.RegionLaw
import Derived.Deep.RegionHeld3
import Derived.Lib.IndexLaws
import Derived.Test.YtgoebckimmofoaaGreatDoorA1
/- What stays while texts are read, and what function values mean. Our own text. -/
namespace Go.Proofs.YtgoebckimmofoaaGreatDoor
open Go.RowKit Go.Lib

/-- Types of blocks that may change whenever: readers, machines, what else is written. -/
def soft (t : TypeId) : Bool := [120, 113, 149, 69, 204, 259, 160, 157, 81, 177, 233, 241, 131, 43].contains t
/-- Types of rows that grow from some block on. -/
def grows (t : TypeId) : Bool := [217, 270].contains t
/-- Blocks stay, but for these: of the growing rows the ones below N. -/
structure Kp (N : Nat) (w w' : World) : Prop where
  size : w.heap.size ≤ w'.heap.size
  keep : ∀ k cs (t : TypeId) fz, w.heap[k]? = some (.cells cs t fz) → cs ≠ #[Value.nilFunc] → soft t = false → (grows t = true → k < N) → w'.heap[k]? = w.heap[k]?
theorem Kp.refl (N : Nat) (w : World) : Kp N w w := ⟨Nat.le_refl _, fun _ _ _ _ _ _ _ _ => rfl⟩
theorem Kp.trans {N : Nat} {a b c : World} (h : Kp N a b) (k : Kp N b c) : Kp N a c :=
  ⟨Nat.le_trans h.size k.size, fun i cs t fz hc hn h1 h2 => (k.keep i cs t fz ((h.keep i cs t fz hc hn h1 h2).trans hc) hn h1 h2).trans (h.keep i cs t fz hc hn h1 h2)⟩
theorem Kp.mono {N M : Nat} {a b : World} (h : Kp N a b) (hm : M ≤ N) : Kp M a b :=
  ⟨h.size, fun i cs t fz hc hn h1 h2 => h.keep i cs t fz hc hn h1 (fun e => Nat.lt_of_lt_of_le (h2 e) hm)⟩
theorem Kp.of_below {N : Nat} {w w' : World} (h : Below w.heap.size w w') : Kp N w w' :=
  ⟨h.size, fun k _ _ _ hc _ _ _ => h.block k (lt_of_block hc)⟩
theorem Kp.of_ex {N B : Nat} {w w' : World} {cs : Array Value} {ty : TypeId} {fz : Nat × Nat} (h : Ex B w w') (hB : w.heap[B]? = some (.cells cs ty fz)) (hs : soft ty = true) : Kp N w w' :=
  ⟨h.size, fun k cs' t fz' hc _ h1 _ => h.block k (lt_of_block hc) (fun e => by subst e; rw [hB] at hc; simp at hc; obtain ⟨_, rfl, _⟩ := hc; rw [hs] at h1; cases h1)⟩
theorem Kp.alloc (N : Nat) (w : World) (o : Obj) : Kp N w (w.alloc o) := Kp.of_below ((Below.refl _ _).alloc (Nat.le_refl _) _)
/-- A row of function values that grows: it lies at or beyond N. -/
theorem Kp.grown {N : Nat} {w w' : World} {e size n base : Nat} {v : Value} {xs : List Value} (ho : w.ownsRow base e size v n xs) (he : soft e = true ∨ (grows e = true ∧ N ≤ base)) (g : w.grownBy w' v.ownBlock) : Kp N w w' := by
  refine ⟨g.size, fun k cs t fz hc _ h1 h2 => g.block k (lt_of_block hc) (fun e' => ?_)⟩
  rcases ho.2 with ⟨rfl, _⟩ | ⟨g', cap, cur, rfl, hb, hg, _⟩
  · simp [Value.ownBlock] at e'
  · obtain rfl : k = g' := by simpa [Value.ownBlock] using e'
    rw [hg] at hc
    simp at hc
    obtain ⟨_, rfl, _⟩ := hc
    rcases he with he | ⟨he, hN⟩
    · rw [he] at h1; cases h1
    · have := h2 he; omega
/-- A store into a block of a soft type. -/
theorem Kp.softSet {N : Nat} {w : World} {cs : Array Value} {ty : TypeId} {fz : Nat × Nat} {p : Addr} (hB : w.heap[p.block]? = some (.cells cs ty fz)) (hs : soft ty = true) (v : Value) : Kp N w (w.setCell p v) :=
  Kp.of_ex (B := p.block) ((Ex.refl p.block w).setCell (.inl rfl) v) hB hs

/-- A function value on a state. -/
def FnK (N : Nat) (w : World) (v : Value) (R : Nat → Value) : Prop :=
  ∃ (fn : Nat) (caps : Array Value), v = .func (.func fn) #[] caps ∧ (∀ args w, (callFunc fn args).run Tryz.prog w = .ok (.enter fn args) w) ∧
    ∀ W, Kp N w W → 0 < W.heap.size → Tab W → ∀ x, x < 64 → Calls Tryz.prog fn (#[.int .u8 (x : Nat)] ++ caps) W fun e W' => e = .returned (R x) ∧ Below W.heap.size W W'
theorem FnK.kp {N : Nat} {w w' : World} {v : Value} {R : Nat → Value} (h : FnK N w v R) (k : Kp N w w') : FnK N w' v R := by
  obtain ⟨fn, caps, h1, h2, h3⟩ := h
  exact ⟨fn, caps, h1, h2, fun W hW => h3 W (k.trans hW)⟩
theorem FnK.up {N N' : Nat} {w w' : World} {v : Value} {R : Nat → Value} (h : FnK N w v R) (k : Kp N w w') (hn : N ≤ N') : FnK N' w' v R := by
  obtain ⟨fn, caps, h1, h2, h3⟩ := h
  exact ⟨fn, caps, h1, h2, fun W hW => h3 W (k.trans (hW.mono hn))⟩
/-- One on a state and a set of states. -/
def FnK2 (w : World) (v : Value) (R : Nat → Nat → Value) : Prop :=
  ∃ (fn : Nat) (caps : Array Value), v = .func (.func fn) #[] caps ∧ (∀ args w, (callFunc fn args).run Tryz.prog w = .ok (.enter fn args) w) ∧
    ∀ W, Kp 0 w W → 0 < W.heap.size → Tab W → ∀ x m, x < 64 → m < 18446744073709551616 → Calls Tryz.prog fn (#[.int .u8 (x : Nat), .int .u64 (m : Nat)] ++ caps) W fun e W' => e = .returned (R x m) ∧ Below W.heap.size W W'
theorem FnK2.kp {w w' : World} {v : Value} {R : Nat → Nat → Value} (h : FnK2 w v R) (k : Kp 0 w w') : FnK2 w' v R := by
  obtain ⟨fn, caps, h1, h2, h3⟩ := h
  exact ⟨fn, caps, h1, h2, fun W hW => h3 W (k.trans hW)⟩
/-- A box of another type than those stays. -/
theorem Kp.box {N b : Nat} {w W : World} {v : Value} {t : TypeId} (h : Kp N w W) (hb : w.heap[b]? = some (.cells #[v] t (0, 0))) (h1 : soft t = false := by decide) (h2 : grows t = false := by decide) (hv : v ≠ .nilFunc := by simp) : W.heap[b]? = some (.cells #[v] t (0, 0)) :=
  (h.keep b _ t _ hb (by simpa using hv) h1 (fun e => by rw [h2] at e; cases e)).trans hb
theorem box_cell {b : Nat} {W : World} {v : Value} {t : TypeId} (h : W.heap[b]? = some (.cells #[v] t (0, 0))) : W.cell? ⟨b, 0, none⟩ = some v := by simp [World.cell?, h]
/-- A box that was empty is filled. -/
theorem Kp.fill {N b : Nat} {w : World} {t : TypeId} (v : Value) (h : w.heap[b]? = some (.cells #[Value.nilFunc] t (0, 0))) : Kp N w (w.setCell ⟨b, 0, none⟩ v) := by
  refine ⟨by simp, fun k cs t' fz hc hn _ _ => heap_setCell_other _ _ _ _ (fun e => ?_)⟩
  have e' : k = b := e
  subst e'
  rw [h] at hc
  simp at hc
  exact hn hc.1.symm
/-- A row of function values that lies below N stays. -/
theorem Kp.row {N base e n : Nat} {w W : World} {v : Value} {xs : List Value} (h : Kp N w W) (he : soft e = false) (ho : w.ownsRow base e 1 v n xs) (hN : w.heap.size ≤ N) (h0 : ∃ f a, xs[0]? = some (.func f #[] a)) : W.ownsRow base e 1 v n xs := by
  refine ⟨ho.1, ?_⟩
  rcases ho.2 with hn | ⟨g, cap, cur, rfl, hb, hg, r1, r2, r3, r4⟩
  · exact .inl hn
  · refine .inr ⟨g, cap, cur, rfl, hb, (h.keep g cur e _ hg ?_ he (fun _ => Nat.lt_of_lt_of_le (lt_of_block hg) hN)).trans hg, r1, r2, r3, r4⟩
    rintro rfl
    obtain ⟨f, a, hx⟩ := h0
    rw [← r4, List.getElem?_take] at hx
    split at hx
    · simp at hx
    · cases hx

/-- The term that stands at a place. -/
def tmOf (s : ByteArray) (p : Nat) : Tm := match num? s p 97 0 2 with
  | some k => ((k : Int), 0, (p : Int))
  | none => match num? s p 48 0 3 with
    | some k => (-1, (k : Int), (p : Int))
    | none => (0, 0, 0)
theorem num_disj' {s : ByteArray} {p k : Nat} (h : num? s p 97 0 2 = some k) : num? s p 48 0 3 = none := by
  unfold num? at *
  split
  · next hl => rw [dif_pos hl] at h; split at h
               · rw [if_neg (by omega)]
               · cases h
  · rfl
theorem num_disj {s : ByteArray} {p k : Nat} (h : num? s p 48 0 3 = some k) : num? s p 97 0 2 = none := by
  cases h2 : num? s p 97 0 2 with
  | none => rfl
  | some j => rw [num_disj' h2] at h; cases h
theorem tmV_digit {s : ByteArray} {p k : Nat} (h : num? s p 48 0 3 = some k) (y : Nat) : tmV (tmOf s p) y = k := by
  unfold tmOf; rw [num_disj h, h]; unfold tmV; rw [if_pos (by simp)]; simp
theorem tmV_name {s : ByteArray} {p k : Nat} (h : num? s p 97 0 2 = some k) (y : Nat) : tmV (tmOf s p) y = dig y k := by
  unfold tmOf; rw [h]; unfold tmV; rw [if_neg (by simp)]; simp
theorem tmV_le3 (s : ByteArray) (p y : Nat) : tmV (tmOf s p) y ≤ 3 := by
  have hd : ∀ a k, dig a k ≤ 3 := fun a k => by unfold dig; omega
  cases h : num? s p 48 0 3 with
  | some k => rw [tmV_digit h]; exact (num_le h).2
  | none =>
    cases h2 : num? s p 97 0 2 with
    | some k => rw [tmV_name h2]; exact hd _ _
    | none => unfold tmOf; rw [h2, h]; unfold tmV; split <;> first | exact Nat.zero_le _ | exact hd _ _

theorem term1_any (k b : Nat) (x : Int) (W : World) (hb : W.heap[b]? = some (.cells #[.int .i64 k] 3 (0, 0))) : Calls Tryz.prog 177 #[.int .u8 x, .pointer (some ⟨b, 0, none⟩)] W fun e W' => e = .returned (.int .i64 (k : Nat)) ∧ W' = W := by
  have c := box_cell hb
  go_enter Tryz.func177, Tryz.ntmps177
  go_wp2
  go_ret
  exact ⟨rfl, rfl⟩
theorem term2_any (k b x : Nat) (hx : x < 64) (hk : k < 3) (W : World) (hb : W.heap[b]? = some (.cells #[.int .i64 k] 3 (0, 0))) : Calls Tryz.prog 178 #[.int .u8 (x : Nat), .pointer (some ⟨b, 0, none⟩)] W fun e W' => e = .returned (.int .i64 (dig x k : Nat)) ∧ W' = W := by
  have c := box_cell hb
  go_enter Tryz.func178, Tryz.ntmps178
  go_wp2_with fail
  refine (value_any x k hx hk W).mono ?_
  rintro e w' ⟨rfl, rfl⟩
  go_wp2
  go_ret
  exact ⟨rfl, rfl⟩

def pTerm (s : ByteArray) (t : T) : Option T :=
  match num? s t.at_ 48 0 3 with
  | some _ => some t.adv
  | none => match num? s t.at_ 97 0 2 with
    | some k => some (t.named k)
    | none => none
section
variable {B M : Nat} {ty : TypeId} {rest : List Value} {s : ByteArray} {t : T} {w : World}
theorem term_no (hs : s.size ≤ 120) (hat : t.at_ ≤ s.size) (hb : RG B M ty rest s t w) (hn : pTerm s t = none) :
    Calls Tryz.prog 149 #[.pointer (some ⟨B, 0, none⟩)] w fun e w' => e = .returned (.tuple #[.nilFunc, .bool false]) ∧ RG B M ty rest s t w' ∧ Ex B w w' := by
  unfold pTerm at hn
  cases h1 : num? s t.at_ 48 0 3 with
  | some k => simp [h1] at hn
  | none =>
    cases h2 : num? s t.at_ 97 0 2 with
    | some k => simp [h1, h2] at hn
    | none =>
      clear hn
      have hmf : ∀ (fn : Fn) (first cap : Array Value) (w : World), (Instr.makeFunc fn first cap).run Tryz.prog w = .ok (.func fn first cap) w := fun _ _ _ _ => rfl
      go_enter Tryz.func149, Tryz.ntmps149
      go_wp2_with fail
      refine (digit_no0 0 hs hat (by omega) hb h1).mono ?_; rintro e w1 ⟨rfl, hb1, hx1⟩
      go_wp2_with fail
      refine (name_no0 hs hat (hb1.alloc _) h2).mono ?_; rintro e w2 ⟨rfl, hb2, hx2⟩
      go_wp2
      go_ret2
      exact ⟨rfl, hb2.alloc _, ((hx1.alloc _).trans hx2).alloc _⟩
set_option maxHeartbeats 800000 in
theorem term_yes {t' : T} (hs : s.size ≤ 120) (hat : t.at_ ≤ s.size) (hb : RG B M ty rest s t w) (hn : pTerm s t = some t') :
    Calls Tryz.prog 149 #[.pointer (some ⟨B, 0, none⟩)] w fun e w' => (∃ f a, e = .returned (.tuple #[.func f #[] a, .bool true]) ∧ FnK 0 w' (.func f #[] a) (fun x => .int .i64 (tmV (tmOf s t.at_) x : Nat))) ∧ RG B M ty rest s t' w' ∧ Ex B w w' := by
  unfold pTerm at hn
  have hmf : ∀ (fn : Fn) (first cap : Array Value) (w : World), (Instr.makeFunc fn first cap).run Tryz.prog w = .ok (.func fn first cap) w := fun _ _ _ _ => rfl
  cases h1 : num? s t.at_ 48 0 3 with
  | some k =>
    simp [h1] at hn; subst hn
    have HV : Put (∀ y, tmV (tmOf s t.at_) y = k) := ⟨tmV_digit h1⟩
    go_enter Tryz.func149, Tryz.ntmps149
    go_wp2_with fail
    refine (digit_yes0 0 k hs (by omega) hb h1).mono ?_; rintro e w1 ⟨rfl, hb1, hx1⟩
    go_wp2
    go_ret2
    refine ⟨⟨_, _, rfl, ⟨177, #[.pointer (some ⟨w1.heap.size, 0, none⟩)], rfl, enters_of Tryz.func177 (by kernel_rfl) rfl, fun W hW _ _ y hy => ?_⟩⟩, hb1.alloc _, hx1.alloc _⟩
    have hbx := hW.box (heap_alloc_new w1 (.cells #[.int .i64 k] 3))
    show Calls _ _ _ _ fun e W' => e = .returned (.int .i64 ((tmV (tmOf s t.at_) y : Nat) : Int)) ∧ _
    rw [HV.out]
    refine (term1_any k w1.heap.size _ W hbx).mono ?_
    rintro e W' ⟨rfl, rfl⟩
    exact ⟨rfl, Below.refl _ _⟩
  | none =>
    cases h2 : num? s t.at_ 97 0 2 with
    | some k =>
      simp [h1, h2] at hn; subst hn
      have hk2 := (num_le h2).2
      have HV : Put (∀ y, tmV (tmOf s t.at_) y = dig y k) := ⟨tmV_name h2⟩
      go_enter Tryz.func149, Tryz.ntmps149
      go_wp2_with fail
      refine (digit_no0 0 hs hat (by omega) hb h1).mono ?_; rintro e w1 ⟨rfl, hb1, hx1⟩
      go_wp2_with fail
      refine (name_yes0 k hs (hb1.alloc _) h2).mono ?_; rintro e w2 ⟨rfl, hb2, hx2⟩
      go_wp2
      go_ret2
      refine ⟨⟨_, _, rfl, ⟨178, #[.pointer (some ⟨w2.heap.size, 0, none⟩)], rfl, enters_of Tryz.func178 (by kernel_rfl) rfl, fun W hW _ _ y hy => ?_⟩⟩, hb2.alloc _, ((hx1.alloc _).trans hx2).alloc _⟩
      have hbx := hW.box (heap_alloc_new w2 (.cells #[.int .i64 k] 3))
      show Calls _ _ _ _ fun e W' => e = .returned (.int .i64 ((tmV (tmOf s t.at_) y : Nat) : Int)) ∧ _
      rw [HV.out]
      refine (term2_any k w2.heap.size y hy (by omega) W hbx).mono ?_
      rintro e W' ⟨rfl, rfl⟩
      exact ⟨rfl, Below.refl _ _⟩
    | none => simp [h1, h2] at hn
end
end Go.Proofs.YtgoebckimmofoaaGreatDoor

/- Conditions as they are read: the signs, what they make. Our own text. -/
namespace Go.Proofs.YtgoebckimmofoaaGreatDoor
open Go.RowKit Go.Lib

/-! A map from bytes to function values. -/
theorem run_put (r : Nat) (es : Array MapEntry) (clock k : Nat) (v : Value) (W : World) (hb : W.heap[r]? = some (.map es clock)) (hk : ∀ x ∈ es.toList, MapKept.IsKey (.int .u8) x.key ∧ x.key ≠ .int .u8 k) :
    (Instr.mapUpdate 291 (.map (some r)) (.int .u8 k) v).run Tryz.prog W = .ok () { W with heap := W.heap.setIfInBounds r (.map (es.push { key := .int .u8 k, val := v, born := clock }) (clock + 1)) } := by
  have hk0 : MapKept.IsKey (.int .u8) (.int .u8 k) := by trivial
  rcases MapKept.findNow_spec hk0 es.toList 0 (fun x hx => (hk x hx).1) with ⟨h1, h2⟩ | ⟨j, e, h1, h2, h3⟩
  · simp [Instr.mapUpdate, run_underlying Tryz.underlying291, MapKept.run_getObj_map hb, MapKept.run_checkKey Tryz.underlying5 hk0, MapKept.run_findKey Tryz.underlying5 h1, MapKept.run_setObj_map _ hb, Result.andThen]
  · exact absurd h3 (hk e (List.mem_of_getElem? (by simpa using h2))).2
theorem run_get (r : Nat) (es : Array MapEntry) (clock k : Nat) (v : Value) (W : World) (hb : W.heap[r]? = some (.map es clock)) (hk : ∀ x ∈ es.toList, MapKept.IsKey (.int .u8) x.key ∧ (x.key = .int .u8 k → x.val = v)) (hin : ∃ x ∈ es.toList, x.key = .int .u8 k) :
    (Instr.lookup 291 (.map (some r)) (.int .u8 k) false).run Tryz.prog W = .ok v W := by
  have hk0 : MapKept.IsKey (.int .u8) (.int .u8 k) := by trivial
  rcases MapKept.findNow_spec hk0 es.toList 0 (fun x hx => (hk x hx).1) with ⟨h1, h2⟩ | ⟨j, e, h1, h2, h3⟩
  · obtain ⟨x, hx, he⟩ := hin
    exact absurd he (h2 x hx)
  · have hv := (hk e (List.mem_of_getElem? (by simpa using h2))).2 h3
    rw [hv] at h1
    simp [Instr.lookup, run_underlying Tryz.underlying291, MapKept.run_getObj_map hb, MapKept.run_checkKey Tryz.underlying5 hk0, MapKept.run_findKey Tryz.underlying5 h1, Result.andThen]
/-- The entries of a list of signs and functions, the last one put in first of the list. -/
def entsOf : List (Nat × Nat) → List MapEntry
  | [] => []
  | e :: l => entsOf l ++ [{ key := .int .u8 e.1, val := .func (.func e.2) #[] #[], born := l.length }]
def MapAt (W : World) (r : Nat) (l : List (Nat × Nat)) : Prop := W.heap[r]? = some (.map (entsOf l).toArray l.length)
theorem entsOf_mem {x : MapEntry} : ∀ {l : List (Nat × Nat)}, x ∈ entsOf l → ∃ e ∈ l, x.key = .int .u8 e.1 ∧ x.val = .func (.func e.2) #[] #[]
  | e :: l, h => by
    unfold entsOf at h
    rcases List.mem_append.1 h with h | h
    · obtain ⟨e', h1, h2⟩ := entsOf_mem h
      exact ⟨e', by simp [h1], h2⟩
    · simp at h; subst h; exact ⟨e, by simp, rfl, rfl⟩
theorem mem_entsOf {e : Nat × Nat} : ∀ {l : List (Nat × Nat)}, e ∈ l → ∃ x ∈ entsOf l, x.key = .int .u8 e.1
  | a :: l, h => by
    rcases List.mem_cons.1 h with rfl | h
    · exact ⟨{ key := .int .u8 e.1, val := .func (.func e.2) #[] #[], born := l.length }, by unfold entsOf; simp, rfl⟩
    · obtain ⟨x, h1, h2⟩ := mem_entsOf h
      exact ⟨x, by unfold entsOf; simp [h1], h2⟩
theorem put_map {W : World} {r : Nat} {l : List (Nat × Nat)} (h : MapAt W r l) (k f : Nat) (hk : ∀ e ∈ l, e.1 ≠ k) :
    ∃ W', (Instr.mapUpdate 291 (.map (some r)) (.int .u8 k) (.func (.func f) #[] #[])).run Tryz.prog W = .ok () W' ∧ MapAt W' r ((k, f) :: l) ∧ Ex r W W' := by
  refine ⟨_, run_put r _ _ k _ W h ?_, ?_, ?_⟩
  · intro x hx
    obtain ⟨e, he, h1, h2⟩ := entsOf_mem (l := l) (by simpa using hx)
    rw [h1]
    refine ⟨by trivial, ?_⟩
    intro h3
    simp at h3
    exact hk e he (by omega)
  · unfold MapAt
    have := (MapKept.heap_set (o' := .map ((entsOf l).toArray.push { key := .int .u8 k, val := .func (.func f) #[] #[], born := l.length }) (l.length + 1)) h).1
    simpa [entsOf] using this
  · exact ⟨rfl, rfl, rfl, by simp, fun i _ hi => (MapKept.heap_set h).2 i hi⟩
theorem get_map {W : World} {r : Nat} {l : List (Nat × Nat)} (h : MapAt W r l) (k f : Nat) (hin : (k, f) ∈ l) (hu : ∀ e ∈ l, e.1 = k → e.2 = f) :
    (Instr.lookup 291 (.map (some r)) (.int .u8 k) false).run Tryz.prog W = .ok (.func (.func f) #[] #[]) W := by
  refine run_get r _ _ k _ W h ?_ ?_
  · intro x hx
    obtain ⟨e, he, h1, h2⟩ := entsOf_mem (l := l) (by simpa using hx)
    rw [h1]
    refine ⟨by trivial, ?_⟩
    intro h3
    simp at h3
    rw [h2, hu e he (by omega)]
  · obtain ⟨x, h1, h2⟩ := mem_entsOf hin
    exact ⟨x, by simpa using h1, h2⟩

theorem equals_any (a b : Value) (ha : a.oneCell' = true) (hb : b.oneCell' = true) (w : World) :
    Calls Tryz.prog 179 #[a, b] w fun e w' => e = .returned (.func (.func 203) #[] #[.pointer (some ⟨w.heap.size, 0, none⟩), .pointer (some ⟨w.heap.size + 1, 0, none⟩)]) ∧ w' = (w.alloc (.cells #[a] 265)).alloc (.cells #[b] 265) := by
  have hmf : ∀ (fn : Fn) (first cap : Array Value) (w : World), (Instr.makeFunc fn first cap).run Tryz.prog w = .ok (.func fn first cap) w := fun _ _ _ _ => rfl
  go_enter Tryz.func179, Tryz.ntmps179
  go_wp2
  go_ret
  exact ⟨rfl, rfl⟩
theorem differs_any (a b : Value) (ha : a.oneCell' = true) (hb : b.oneCell' = true) (w : World) :
    Calls Tryz.prog 180 #[a, b] w fun e w' => e = .returned (.func (.func 204) #[] #[.pointer (some ⟨w.heap.size, 0, none⟩), .pointer (some ⟨w.heap.size + 1, 0, none⟩)]) ∧ w' = (w.alloc (.cells #[a] 265)).alloc (.cells #[b] 265) := by
  have hmf : ∀ (fn : Fn) (first cap : Array Value) (w : World), (Instr.makeFunc fn first cap).run Tryz.prog w = .ok (.func fn first cap) w := fun _ _ _ _ => rfl
  go_enter Tryz.func180, Tryz.ntmps180
  go_wp2
  go_ret
  exact ⟨rfl, rfl⟩
theorem isBelow_any (a b : Value) (ha : a.oneCell' = true) (hb : b.oneCell' = true) (w : World) :
    Calls Tryz.prog 181 #[a, b] w fun e w' => e = .returned (.func (.func 205) #[] #[.pointer (some ⟨w.heap.size, 0, none⟩), .pointer (some ⟨w.heap.size + 1, 0, none⟩)]) ∧ w' = (w.alloc (.cells #[a] 265)).alloc (.cells #[b] 265) := by
  have hmf : ∀ (fn : Fn) (first cap : Array Value) (w : World), (Instr.makeFunc fn first cap).run Tryz.prog w = .ok (.func fn first cap) w := fun _ _ _ _ => rfl
  go_enter Tryz.func181, Tryz.ntmps181
  go_wp2
  go_ret
  exact ⟨rfl, rfl⟩

set_option maxRecDepth 100000 in
set_option maxHeartbeats 1600000 in
theorem equals1_any (bl br y : Nat) (hy : y < 64) (vl vr : Value) (L R : Nat → Nat) (w W : World) (hW : Kp 0 w W) (h0 : 0 < W.heap.size) (hT : Tab W) (hl : FnK 0 w vl (fun x => .int .i64 (L x : Nat))) (hr : FnK 0 w vr (fun x => .int .i64 (R x : Nat)))
    (b2 : W.heap[bl]? = some (.cells #[vl] 265 (0, 0))) (b3 : W.heap[br]? = some (.cells #[vr] 265 (0, 0))) :
    Calls Tryz.prog 203 #[.int .u8 (y : Nat), .pointer (some ⟨bl, 0, none⟩), .pointer (some ⟨br, 0, none⟩)] W fun e W' => e = .returned (.bool (cmpP 61 (L y) (R y))) ∧ Below W.heap.size W W' := by
  obtain ⟨fl, cl, rfl, el, kl⟩ := hl
  obtain ⟨fr, cr, rfl, er, kr⟩ := hr
  have c2 := box_cell b2
  have c3 := box_cell b3
  have hL : ∀ W2, Below W.heap.size W W2 → Calls Tryz.prog fl (#[.int .u8 (y : Nat)] ++ cl) W2 fun e W' => e = .returned (.int .i64 ((L y : Nat) : Int)) ∧ Below W2.heap.size W2 W' := fun W2 h2 => kl W2 (hW.trans (Kp.of_below h2)) (Nat.lt_of_lt_of_le h0 h2.size) (hT.below h2 h0) y hy
  have hR : ∀ W2, Below W.heap.size W W2 → Calls Tryz.prog fr (#[.int .u8 (y : Nat)] ++ cr) W2 fun e W' => e = .returned (.int .i64 ((R y : Nat) : Int)) ∧ Below W2.heap.size W2 W' := fun W2 h2 => kr W2 (hW.trans (Kp.of_below h2)) (Nat.lt_of_lt_of_le h0 h2.size) (hT.below h2 h0) y hy
  have l2 := lt_of_block b2
  have l3 := lt_of_block b3
  generalize L y = a at *
  generalize R y = b at *
  have hC : cmpP 61 a b = ((a : Int) == (b : Int)) := (cmpP_same (op := 61) rfl rfl rfl).symm
  have HC : Put (_ = _) := ⟨hC⟩
  clear b2 b3 kl kr hW hC
  have hdr : Below W.heap.size W W.drew := ⟨rfl, rfl, rfl, Nat.le_refl _, fun _ _ => rfl⟩
  have HL : Put (_) := ⟨hL⟩
  have HR : Put (_) := ⟨hR⟩
  clear hL hR hT
  rw [HC.out]
  go_enter Tryz.func203, Tryz.ntmps203
  go_wp2_with fail
  go_region_held3 (fun w' => ∀ b o, b < W.heap.size → w'.cell? ⟨b, o, none⟩ = W.cell? ⟨b, o, none⟩)
    (first
      | exact fun b o hb => (hbR'.cell (p := ⟨b, o, none⟩) hb)
      | exact fun b o hb => (hbL'.cell (p := ⟨b, o, none⟩) hb)
      | exact fun _ _ _ => rfl
      | go_keep)
    (first
      | (with_reducible refine (HR.out wL hbL').mono ?_; rintro e wR ⟨rfl, hbR⟩; have hbR' : Below W.heap.size W wR := hbL'.trans (hbR.mono hbL'.size))
      | (refine (HL.out W.drew hdr).mono ?_; rintro e wL ⟨rfl, hbL⟩; have hbL' : Below W.heap.size W wL := hdr.trans hbL))
  all_goals
    go_wp2
    go_ret
    exact ⟨rfl, hbR'⟩
set_option maxRecDepth 100000 in
set_option maxHeartbeats 1600000 in
theorem differs1_any (bl br y : Nat) (hy : y < 64) (vl vr : Value) (L R : Nat → Nat) (w W : World) (hW : Kp 0 w W) (h0 : 0 < W.heap.size) (hT : Tab W) (hl : FnK 0 w vl (fun x => .int .i64 (L x : Nat))) (hr : FnK 0 w vr (fun x => .int .i64 (R x : Nat)))
    (b2 : W.heap[bl]? = some (.cells #[vl] 265 (0, 0))) (b3 : W.heap[br]? = some (.cells #[vr] 265 (0, 0))) :
    Calls Tryz.prog 204 #[.int .u8 (y : Nat), .pointer (some ⟨bl, 0, none⟩), .pointer (some ⟨br, 0, none⟩)] W fun e W' => e = .returned (.bool (cmpP 35 (L y) (R y))) ∧ Below W.heap.size W W' := by
  obtain ⟨fl, cl, rfl, el, kl⟩ := hl
  obtain ⟨fr, cr, rfl, er, kr⟩ := hr
  have c2 := box_cell b2
  have c3 := box_cell b3
  have hL : ∀ W2, Below W.heap.size W W2 → Calls Tryz.prog fl (#[.int .u8 (y : Nat)] ++ cl) W2 fun e W' => e = .returned (.int .i64 ((L y : Nat) : Int)) ∧ Below W2.heap.size W2 W' := fun W2 h2 => kl W2 (hW.trans (Kp.of_below h2)) (Nat.lt_of_lt_of_le h0 h2.size) (hT.below h2 h0) y hy
  have hR : ∀ W2, Below W.heap.size W W2 → Calls Tryz.prog fr (#[.int .u8 (y : Nat)] ++ cr) W2 fun e W' => e = .returned (.int .i64 ((R y : Nat) : Int)) ∧ Below W2.heap.size W2 W' := fun W2 h2 => kr W2 (hW.trans (Kp.of_below h2)) (Nat.lt_of_lt_of_le h0 h2.size) (hT.below h2 h0) y hy
  have l2 := lt_of_block b2
  have l3 := lt_of_block b3
  generalize L y = a at *
  generalize R y = b at *
  have hC : cmpP 35 a b = ((a : Int) != (b : Int)) := (cmpP_same (op := 35) rfl rfl rfl).symm
  have HC : Put (_ = _) := ⟨hC⟩
  clear b2 b3 kl kr hW hC
  have hdr : Below W.heap.size W W.drew := ⟨rfl, rfl, rfl, Nat.le_refl _, fun _ _ => rfl⟩
  have HL : Put (_) := ⟨hL⟩
  have HR : Put (_) := ⟨hR⟩
  clear hL hR hT
  rw [HC.out]
  go_enter Tryz.func204, Tryz.ntmps204
  go_wp2_with fail
  go_region_held3 (fun w' => ∀ b o, b < W.heap.size → w'.cell? ⟨b, o, none⟩ = W.cell? ⟨b, o, none⟩)
    (first
      | exact fun b o hb => (hbR'.cell (p := ⟨b, o, none⟩) hb)
      | exact fun b o hb => (hbL'.cell (p := ⟨b, o, none⟩) hb)
      | exact fun _ _ _ => rfl
      | go_keep)
    (first
      | (with_reducible refine (HR.out wL hbL').mono ?_; rintro e wR ⟨rfl, hbR⟩; have hbR' : Below W.heap.size W wR := hbL'.trans (hbR.mono hbL'.size))
      | (refine (HL.out W.drew hdr).mono ?_; rintro e wL ⟨rfl, hbL⟩; have hbL' : Below W.heap.size W wL := hdr.trans hbL))
  all_goals
    go_wp2
    go_ret
    exact ⟨rfl, hbR'⟩
set_option maxRecDepth 100000 in
set_option maxHeartbeats 1600000 in
theorem isBelow1_any (bl br y : Nat) (hy : y < 64) (vl vr : Value) (L R : Nat → Nat) (w W : World) (hW : Kp 0 w W) (h0 : 0 < W.heap.size) (hT : Tab W) (hl : FnK 0 w vl (fun x => .int .i64 (L x : Nat))) (hr : FnK 0 w vr (fun x => .int .i64 (R x : Nat)))
    (b2 : W.heap[bl]? = some (.cells #[vl] 265 (0, 0))) (b3 : W.heap[br]? = some (.cells #[vr] 265 (0, 0))) :
    Calls Tryz.prog 205 #[.int .u8 (y : Nat), .pointer (some ⟨bl, 0, none⟩), .pointer (some ⟨br, 0, none⟩)] W fun e W' => e = .returned (.bool (cmpP 60 (L y) (R y))) ∧ Below W.heap.size W W' := by
  obtain ⟨fl, cl, rfl, el, kl⟩ := hl
  obtain ⟨fr, cr, rfl, er, kr⟩ := hr
  have c2 := box_cell b2
  have c3 := box_cell b3
  have hL : ∀ W2, Below W.heap.size W W2 → Calls Tryz.prog fl (#[.int .u8 (y : Nat)] ++ cl) W2 fun e W' => e = .returned (.int .i64 ((L y : Nat) : Int)) ∧ Below W2.heap.size W2 W' := fun W2 h2 => kl W2 (hW.trans (Kp.of_below h2)) (Nat.lt_of_lt_of_le h0 h2.size) (hT.below h2 h0) y hy
  have hR : ∀ W2, Below W.heap.size W W2 → Calls Tryz.prog fr (#[.int .u8 (y : Nat)] ++ cr) W2 fun e W' => e = .returned (.int .i64 ((R y : Nat) : Int)) ∧ Below W2.heap.size W2 W' := fun W2 h2 => kr W2 (hW.trans (Kp.of_below h2)) (Nat.lt_of_lt_of_le h0 h2.size) (hT.below h2 h0) y hy
  have l2 := lt_of_block b2
  have l3 := lt_of_block b3
  generalize L y = a at *
  generalize R y = b at *
  have hC : cmpP 60 a b = decide ((a : Int) < (b : Int)) := (cmpP_same (op := 60) rfl rfl rfl).symm
  have HC : Put (_ = _) := ⟨hC⟩
  clear b2 b3 kl kr hW hC
  have hdr : Below W.heap.size W W.drew := ⟨rfl, rfl, rfl, Nat.le_refl _, fun _ _ => rfl⟩
  have HL : Put (_) := ⟨hL⟩
  have HR : Put (_) := ⟨hR⟩
  clear hL hR hT
  rw [HC.out]
  go_enter Tryz.func205, Tryz.ntmps205
  go_wp2_with fail
  go_region_held3 (fun w' => ∀ b o, b < W.heap.size → w'.cell? ⟨b, o, none⟩ = W.cell? ⟨b, o, none⟩)
    (first
      | exact fun b o hb => (hbR'.cell (p := ⟨b, o, none⟩) hb)
      | exact fun b o hb => (hbL'.cell (p := ⟨b, o, none⟩) hb)
      | exact fun _ _ _ => rfl
      | go_keep)
    (first
      | (with_reducible refine (HR.out wL hbL').mono ?_; rintro e wR ⟨rfl, hbR⟩; have hbR' : Below W.heap.size W wR := hbL'.trans (hbR.mono hbL'.size))
      | (refine (HL.out W.drew hdr).mono ?_; rintro e wL ⟨rfl, hbL⟩; have hbL' : Below W.heap.size W wL := hdr.trans hbL))
  all_goals
    go_wp2
    go_ret
    refine ⟨?_, hbR'⟩
    show Ending.returned (Value.bool (decide (a < b))) = Ending.returned (Value.bool (decide ((a : Int) < (b : Int))))
    congr 2
    rw [Bool.eq_iff_iff]; simp

set_option maxRecDepth 100000 in
set_option maxHeartbeats 1600000 in
theorem compare_any (k : Nat) (hk : k = 61 ∨ k = 35 ∨ k = 60) (fl fr : Fn) (cl cr : Array Value) (L R : Nat → Nat) (w : World) (hl : FnK 0 w (.func fl #[] cl) (fun x => .int .i64 (L x : Nat))) (hr : FnK 0 w (.func fr #[] cr) (fun x => .int .i64 (R x : Nat))) :
    Calls Tryz.prog 150 #[.int .u8 (k : Nat), .func fl #[] cl, .func fr #[] cr] w fun e w' => (∃ f c, e = .returned (.func f #[] c) ∧ FnK 0 w' (.func f #[] c) (fun x => .bool (cmpP k (L x) (R x)))) ∧ Below w.heap.size w w' := by
  have hmk : (Instr.makeMap 291 none).run Tryz.prog w = .ok (.map (some w.heap.size)) (w.alloc (.map #[] 0)) := by simp [Instr.makeMap, Result.andThen]
  have m0 : MapAt (w.alloc (.map #[] 0)) w.heap.size [] := heap_alloc_new w (.map #[] 0)
  obtain ⟨W1, r1, m1, x1⟩ := put_map m0 61 179 (by simp)
  change (Instr.mapUpdate 291 (.map (some w.heap.size)) (.int .u8 61) (.func (.func 179) #[] #[])).run Tryz.prog (w.alloc (.map #[] 0)) = .ok () W1 at r1
  obtain ⟨W2, r2, m2, x2⟩ := put_map m1 35 180 (by simp)
  change (Instr.mapUpdate 291 (.map (some w.heap.size)) (.int .u8 35) (.func (.func 180) #[] #[])).run Tryz.prog W1 = .ok () W2 at r2
  obtain ⟨W3, r3, m3, x3⟩ := put_map m2 60 181 (by simp)
  change (Instr.mapUpdate 291 (.map (some w.heap.size)) (.int .u8 60) (.func (.func 181) #[] #[])).run Tryz.prog W2 = .ok () W3 at r3
  have hB : Below w.heap.size w W3 := ((Below.refl _ w).alloc (Nat.le_refl _) _).trans (((x1.trans x2).trans x3).below (Nat.le_refl _) (by simp))
  have hl3 := hl.kp (Kp.of_below hB)
  have hr3 := hr.kp (Kp.of_below hB)
  have HB : Put (_) := ⟨hB⟩
  have HM : Put (_ ∧ _) := ⟨hl3, hr3⟩
  have hsz : w.heap.size ≤ W3.heap.size := hB.size
  clear m0 m1 m2 x1 x2 x3 hB hl hr hl3 hr3
  rcases hk with rfl | rfl | rfl
  · have g := get_map m3 61 179 (by simp) (by simp)
    change (Instr.lookup 291 (.map (some w.heap.size)) (.int .u8 61) false).run Tryz.prog W3 = .ok (.func (.func 179) #[] #[]) W3 at g
    show Calls Tryz.prog 150 #[.int .u8 61, .func fl #[] cl, .func fr #[] cr] w _
    have en := enters_of Tryz.func179 (by kernel_rfl) rfl
    clear m3
    go_enter Tryz.func150, Tryz.ntmps150
    go_wp2_with fail
    refine (equals_any (.func fl #[] cl) (.func fr #[] cr) rfl rfl W3).mono ?_
    rintro e w4 ⟨rfl, rfl⟩
    go_wp2
    go_ret
    refine ⟨⟨_, _, rfl, 203, _, rfl, enters_of Tryz.func203 (by kernel_rfl) rfl, fun W hW h0 hT y hy => ?_⟩, (HB.out.alloc hsz _).alloc (by simp; omega) _⟩
    have k0 := ((Kp.alloc 0 W3 (.cells #[.func fl #[] cl] 265)).trans (Kp.alloc 0 _ (.cells #[.func fr #[] cr] 265)))
    have bx1 := ((Kp.alloc 0 _ (.cells #[.func fr #[] cr] 265)).trans hW).box (heap_alloc_new W3 (.cells #[.func fl #[] cl] 265))
    have bx2 := hW.box (heap_alloc_new (W3.alloc (.cells #[.func fl #[] cl] 265)) (.cells #[.func fr #[] cr] 265))
    rw [World.size_alloc] at bx2
    exact equals1_any _ _ y hy _ _ L R W3 W (k0.trans hW) h0 hT HM.out.1 HM.out.2 bx1 bx2
  · have g := get_map m3 35 180 (by simp) (by simp)
    change (Instr.lookup 291 (.map (some w.heap.size)) (.int .u8 35) false).run Tryz.prog W3 = .ok (.func (.func 180) #[] #[]) W3 at g
    show Calls Tryz.prog 150 #[.int .u8 35, .func fl #[] cl, .func fr #[] cr] w _
    have en := enters_of Tryz.func180 (by kernel_rfl) rfl
    clear m3
    go_enter Tryz.func150, Tryz.ntmps150
    go_wp2_with fail
    refine (differs_any (.func fl #[] cl) (.func fr #[] cr) rfl rfl W3).mono ?_
    rintro e w4 ⟨rfl, rfl⟩
    go_wp2
    go_ret
    refine ⟨⟨_, _, rfl, 204, _, rfl, enters_of Tryz.func204 (by kernel_rfl) rfl, fun W hW h0 hT y hy => ?_⟩, (HB.out.alloc hsz _).alloc (by simp; omega) _⟩
    have k0 := ((Kp.alloc 0 W3 (.cells #[.func fl #[] cl] 265)).trans (Kp.alloc 0 _ (.cells #[.func fr #[] cr] 265)))
    have bx1 := ((Kp.alloc 0 _ (.cells #[.func fr #[] cr] 265)).trans hW).box (heap_alloc_new W3 (.cells #[.func fl #[] cl] 265))
    have bx2 := hW.box (heap_alloc_new (W3.alloc (.cells #[.func fl #[] cl] 265)) (.cells #[.func fr #[] cr] 265))
    rw [World.size_alloc] at bx2
    exact differs1_any _ _ y hy _ _ L R W3 W (k0.trans hW) h0 hT HM.out.1 HM.out.2 bx1 bx2
  · have g := get_map m3 60 181 (by simp) (by simp)
    change (Instr.lookup 291 (.map (some w.heap.size)) (.int .u8 60) false).run Tryz.prog W3 = .ok (.func (.func 181) #[] #[]) W3 at g
    show Calls Tryz.prog 150 #[.int .u8 60, .func fl #[] cl, .func fr #[] cr] w _
    have en := enters_of Tryz.func181 (by kernel_rfl) rfl
    clear m3
    go_enter Tryz.func150, Tryz.ntmps150
    go_wp2_with fail
    refine (isBelow_any (.func fl #[] cl) (.func fr #[] cr) rfl rfl W3).mono ?_
    rintro e w4 ⟨rfl, rfl⟩
    go_wp2
    go_ret
    refine ⟨⟨_, _, rfl, 205, _, rfl, enters_of Tryz.func205 (by kernel_rfl) rfl, fun W hW h0 hT y hy => ?_⟩, (HB.out.alloc hsz _).alloc (by simp; omega) _⟩
    have k0 := ((Kp.alloc 0 W3 (.cells #[.func fl #[] cl] 265)).trans (Kp.alloc 0 _ (.cells #[.func fr #[] cr] 265)))
    have bx1 := ((Kp.alloc 0 _ (.cells #[.func fr #[] cr] 265)).trans hW).box (heap_alloc_new W3 (.cells #[.func fl #[] cl] 265))
    have bx2 := hW.box (heap_alloc_new (W3.alloc (.cells #[.func fl #[] cl] 265)) (.cells #[.func fr #[] cr] 265))
    rw [World.size_alloc] at bx2
    exact isBelow1_any _ _ y hy _ _ L R W3 W (k0.trans hW) h0 hT HM.out.1 HM.out.2 bx1 bx2
end Go.Proofs.YtgoebckimmofoaaGreatDoor

/- A condition, read; one of a sign's bytes. Our own text. -/
namespace Go.Proofs.YtgoebckimmofoaaGreatDoor
open Go.RowKit Go.Lib

set_option maxRecDepth 100000 in
theorem IndexByte2_any (s : ByteArray) (c : Int) (w : World) : Calls Tryz.prog 193 #[.string s, .int .u8 c] w fun e w' => e = .returned (.int .i64 (indexByte s.data.toList c.toNat.toUInt8)) ∧ w' = w := by
  go_enter Tryz.func193, Tryz.ntmps193
  go_wp2
  rw [run_callFunc_extern Tryz.func209 (by kernel_rfl) (by kernel_rfl) (by kernel_rfl) (e := Extern.BytealgIndexByte.indexByte) (by kernel_rfl), Lib.run_indexByteString]
  simp only [Result.andThen]
  rw [Oper.upon_value]
  go_wp2
  go_ret
  exact ⟨rfl, rfl⟩
theorem IndexByte_any (s : ByteArray) (c : Int) (w : World) : Calls Tryz.prog 171 #[.string s, .int .u8 c] w fun e w' => e = .returned (.int .i64 (indexByte s.data.toList c.toNat.toUInt8)) ∧ w' = w := by
  go_enter Tryz.func171, Tryz.ntmps171
  go_wp2_with fail
  refine (IndexByte2_any s c w).mono ?_
  rintro e w' ⟨rfl, rfl⟩
  go_wp2
  go_ret
  exact ⟨rfl, rfl⟩

/-- The byte at a place is one of these. -/
def oneOf? (s : ByteArray) (p : Nat) (l : List UInt8) : Option Nat := if h : p < s.size then (if s[p] ∈ l then some s[p].toNat else none) else none
theorem indexByte_mem {l : List UInt8} {c : UInt8} : indexByte l c < 0 ↔ c ∉ l := by
  constructor
  · intro h hc
    have h1 : indexByte l c = -1 := by have := indexByte_ge l c; omega
    obtain ⟨i, hi⟩ := List.getElem?_of_mem hc
    exact indexByte_none h1 i hi
  · intro h
    have := indexByte_ge l c
    by_cases h1 : indexByte l c = -1
    · omega
    · exfalso
      obtain ⟨o, ho⟩ : ∃ o : Nat, indexByte l c = o := ⟨(indexByte l c).toNat, by omega⟩
      exact h (List.mem_of_getElem? (indexByte_some ho).1)

section
variable {B M : Nat} {ty : TypeId} {rest : List Value} {s : ByteArray} {t : T} {w : World}
set_option maxRecDepth 100000 in
set_option maxHeartbeats 1600000 in
theorem oneOf_no (l : ByteArray) (hat : t.at_ ≤ s.size) (hb : RG B M ty rest s t w) (hn : oneOf? s t.at_ l.data.toList = none) :
    Calls Tryz.prog 139 #[.pointer (some ⟨B, 0, none⟩), .string l] w fun e w' => e = .returned (.tuple #[.int .u8 0, .bool false]) ∧ RG B M ty rest s t w' ∧ Ex B w w' := by
  have HE : Put (∀ n, Calls Tryz.prog 75 #[.pointer (some ⟨B, 0, none⟩)] (w.drewN n) fun e w' => e = .returned (.bool (decide (t.at_ = s.size))) ∧ ∃ m, w' = (w.drewN n).drewN m) := ⟨fun n => atEnd_q hat (hb.drewN n)⟩
  have d0 := hb.c0
  have d1 := hb.c1
  have HB : Put (RG B M ty rest s t w) := ⟨hb⟩
  by_cases h : t.at_ = s.size
  · rw [decide_eq_true h] at HE
    clear hn hb hat
    rw [h] at d1
    go_enter Tryz.func139, Tryz.ntmps139
    go_wp2
    go_quiet ((go_at_call 75; exact Calls.quiet_of (HE.out _)))
    go_wp2
    go_ret2
    exact ⟨rfl, HB.out.drewN _, (Ex.refl _ _).drewN _⟩
  · rw [decide_eq_false h] at HE
    have hlt : t.at_ < s.size := by omega
    have i1 : (t.at_ : Int) < (s.size : Int) := by omega
    have i0 : (0 : Int) ≤ (t.at_ : Int) := by omega
    have hm : s[t.at_] ∉ l.data.toList := by
      unfold oneOf? at hn
      rw [dif_pos hlt] at hn
      split at hn
      · cases hn
      · assumption
    have hi := indexByte_mem.2 hm
    have HI : Put (∀ w, Calls Tryz.prog 171 #[.string l, .int .u8 (s[t.at_].toNat : Nat)] w fun e w' => e = .returned (.int .i64 (indexByte l.data.toList s[t.at_])) ∧ w' = w) := ⟨fun w => by
      have := IndexByte_any l ((s[t.at_].toNat : Nat) : Int) w
      simpa using this⟩
    generalize indexByte l.data.toList s[t.at_] = ix at *
    clear hn hm hat hb
    generalize t.at_ = p at *
    go_enter Tryz.func139, Tryz.ntmps139
    go_wp2
    go_quiet (first | (go_at_call 75; exact Calls.quiet_of (HE.out _)) | (go_at_call 171; exact Calls.quiet_of_same (HI.out _)))
    go_wp2
    go_ret2
    exact ⟨rfl, HB.out.drewN _, (Ex.refl _ _).drewN _⟩
set_option maxRecDepth 100000 in
set_option maxHeartbeats 1600000 in
theorem oneOf_yes (l : ByteArray) (k : Nat) (hs : s.size ≤ 120) (hb : RG B M ty rest s t w) (hn : oneOf? s t.at_ l.data.toList = some k) :
    Calls Tryz.prog 139 #[.pointer (some ⟨B, 0, none⟩), .string l] w fun e w' => e = .returned (.tuple #[.int .u8 k, .bool true]) ∧ RG B M ty rest s t.adv w' ∧ Ex B w w' := by
  have hlt : t.at_ < s.size := by
    unfold oneOf? at hn
    split at hn
    · assumption
    · cases hn
  have hm : s[t.at_] ∈ l.data.toList ∧ s[t.at_].toNat = k := by
    unfold oneOf? at hn
    rw [dif_pos hlt] at hn
    split at hn
    · next h => simp at hn; exact ⟨h, hn⟩
    · cases hn
  have HE : Put (∀ n, Calls Tryz.prog 75 #[.pointer (some ⟨B, 0, none⟩)] (w.drewN n) fun e w' => e = .returned (.bool (decide (t.at_ = s.size))) ∧ ∃ m, w' = (w.drewN n).drewN m) := ⟨fun n => atEnd_q (by omega) (hb.drewN n)⟩
  rw [decide_eq_false (by omega)] at HE
  have d0 := hb.c0
  have d1 := hb.c1
  have f1 := hb.free 1
  have HB : Put (RG B M ty rest s t.adv (w.setCell ⟨B, 1, none⟩ (.int .i64 ((t.at_ + 1 : Nat) : Int)))) := ⟨hb.set1 (t.at_ + 1)⟩
  have i1 : (t.at_ : Int) < (s.size : Int) := by omega
  have i0 : (0 : Int) ≤ (t.at_ : Int) := by omega
  have hi : ¬ indexByte l.data.toList s[t.at_] < 0 := fun h => indexByte_mem.1 h hm.1
  have HI : Put (∀ w, Calls Tryz.prog 171 #[.string l, .int .u8 (s[t.at_].toNat : Nat)] w fun e w' => e = .returned (.int .i64 (indexByte l.data.toList s[t.at_])) ∧ w' = w) := ⟨fun w => by
    have := IndexByte_any l ((s[t.at_].toNat : Nat) : Int) w
    simpa using this⟩
  generalize indexByte l.data.toList s[t.at_] = ix at *
  have HK : Put (s[t.at_].toNat = k) := ⟨hm.2⟩
  clear hn hm hb
  generalize t.at_ = p at *
  have j1 : (p : Int) + 1 - 1 = (p : Int) := by omega
  go_enter Tryz.func139, Tryz.ntmps139
  go_wp2
  go_quiet (first | (go_at_call 75; exact Calls.quiet_of (HE.out _)) | (go_at_call 171; exact Calls.quiet_of_same (HI.out _)))
  go_wp2
  go_quiet (fail)
  go_wp2
  go_ret2
  refine ⟨?_, ?_, ?_⟩
  · rw [← HK.out]; rfl
  · exact HB.out.move rfl rfl
  · exact ((((Ex.refl B w).drewN _).setCell (.inl rfl) _).drewN _)
end
end Go.Proofs.YtgoebckimmofoaaGreatDoor

/- The reader of models and its machine, in two blocks; what its rows mean. Our own text. -/
namespace Go.Proofs.YtgoebckimmofoaaGreatDoor
open Go.RowKit Go.Lib

theorem blame_same (t : T) (f : Nat) : (t.blame f).at_ = t.at_ ∧ (t.blame f).n = t.n ∧ (t.blame f).nr = t.nr ∧ (t.blame f).chd = t.chd := by
  unfold T.blame; split <;> exact ⟨rfl, rfl, rfl, rfl⟩
theorem named_same (t : T) (k : Nat) : (t.named k).at_ = t.at_ + 1 ∧ (t.named k).n = t.n ∧ (t.named k).nr = t.nr ∧ (t.named k).chd = t.chd := by
  unfold T.named; split
  · exact blame_same _ _
  · exact ⟨rfl, rfl, rfl, rfl⟩
theorem pTerm_same {s : ByteArray} {t t' : T} (h : pTerm s t = some t') : t'.at_ = t.at_ + 1 ∧ t'.n = t.n ∧ t'.nr = t.nr ∧ t'.chd = t.chd := by
  unfold pTerm at h; split at h
  · cases h; exact ⟨rfl, rfl, rfl, rfl⟩
  · split at h
    · cases h; exact named_same _ _
    · cases h
theorem pTerm_lt {s : ByteArray} {t t' : T} (h : pTerm s t = some t') : t'.at_ ≤ s.size := by
  have := (pTerm_same h).1
  unfold pTerm at h; split at h
  · next e => have := num_lt e; omega
  · split at h
    · next e => have := num_lt e; omega
    · cases h
def pCmp (s : ByteArray) (t : T) : Option T :=
  match num? s t.at_ 61 0 0 with
  | some _ => some t.adv
  | none => match num? s t.at_ 35 0 0 with
    | some _ => some t.adv
    | none => match num? s t.at_ 60 0 0 with
      | some _ => some t.adv
      | none => none
theorem pCmp_same {s : ByteArray} {t t' : T} (h : pCmp s t = some t') : t' = t.adv ∧ t.at_ < s.size := by
  unfold pCmp at h; split at h
  · next e => cases h; exact ⟨rfl, num_lt e⟩
  · split at h
    · next e => cases h; exact ⟨rfl, num_lt e⟩
    · split at h
      · next e => cases h; exact ⟨rfl, num_lt e⟩
      · cases h
def signs : ByteArray := ⟨#[61, 35, 60]⟩
theorem num_is {s : ByteArray} {p z k : Nat} (h : num? s p z 0 0 = some k) : ∃ h : p < s.size, s[p].toNat = z := by
  obtain ⟨h1, h2, h3, _⟩ := num_some h
  exact ⟨h1, by omega⟩
theorem num_not {s : ByteArray} {p z : Nat} (h : num? s p z 0 0 = none) (hp : p < s.size) : s[p].toNat ≠ z := by
  rcases num_ways h (Nat.le_of_lt hp) with h | ⟨_, h⟩ <;> omega
theorem u8_is {a : UInt8} {n : Nat} (hn : n < 256) (h : a.toNat = n) : a = UInt8.ofNat n := by
  apply UInt8.toNat_inj.1
  simp [h]; omega
theorem pCmp_some {s : ByteArray} {t t' : T} (h : pCmp s t = some t') : ∃ k, oneOf? s t.at_ signs.data.toList = some k ∧ (k = 61 ∨ k = 35 ∨ k = 60) ∧ k = byteAt s t.at_ := by
  have key : ∀ z, z < 256 → (UInt8.ofNat z) ∈ signs.data.toList → ∀ k, num? s t.at_ z 0 0 = some k → oneOf? s t.at_ signs.data.toList = some z ∧ z = byteAt s t.at_ := by
    intro z hz hm k hk
    obtain ⟨hl, he⟩ := num_is hk
    refine ⟨?_, ?_⟩
    · unfold oneOf?
      rw [dif_pos hl, if_pos (by rw [u8_is hz he]; exact hm), he]
    · rw [num_byte hk, (show k = 0 by have := (num_le hk).2; omega)]; omega
  unfold pCmp at h; split at h
  · next k e => exact ⟨61, (key 61 (by omega) (by decide) k e).1, .inl rfl, (key 61 (by omega) (by decide) k e).2⟩
  · split at h
    · next k e => exact ⟨35, (key 35 (by omega) (by decide) k e).1, .inr (.inl rfl), (key 35 (by omega) (by decide) k e).2⟩
    · split at h
      · next k e => exact ⟨60, (key 60 (by omega) (by decide) k e).1, .inr (.inr rfl), (key 60 (by omega) (by decide) k e).2⟩
      · cases h
theorem pCmp_none {s : ByteArray} {t : T} (h : pCmp s t = none) : oneOf? s t.at_ signs.data.toList = none := by
  unfold pCmp at h
  split at h
  · cases h
  · next e1 =>
    split at h
    · cases h
    · next e2 =>
      split at h
      · cases h
      · next e3 =>
        unfold oneOf?
        by_cases hl : t.at_ < s.size
        · rw [dif_pos hl, if_neg]
          intro hm
          have h1 := num_not e1 hl
          have h2 := num_not e2 hl
          have h3 := num_not e3 hl
          have : s[t.at_] = 61 ∨ s[t.at_] = 35 ∨ s[t.at_] = 60 := by simpa [signs] using hm
          rcases this with h | h | h
          · exact h1 (by rw [h]; rfl)
          · exact h2 (by rw [h]; rfl)
          · exact h3 (by rw [h]; rfl)
        · rw [dif_neg hl]
def pCond (s : ByteArray) (t : T) : Bool × T :=
  match pTerm s t with
  | none => (false, t)
  | some t1 => match pCmp s t1 with
    | none => (false, t1)
    | some t2 => match pTerm s t2 with
      | none => (false, t2)
      | some t3 => (true, t3)
theorem pCond_same {s : ByteArray} {t t' : T} {b : Bool} (h : pCond s t = (b, t')) (ht : t.at_ ≤ s.size) : t.at_ ≤ t'.at_ ∧ t'.n = t.n ∧ t'.nr = t.nr ∧ t'.chd = t.chd ∧ t'.at_ ≤ s.size ∧ (b = true → t.at_ < t'.at_) := by
  unfold pCond at h
  split at h
  · cases h; exact ⟨Nat.le_refl _, rfl, rfl, rfl, ht, fun h => by cases h⟩
  · next t1 e1 =>
    have s1 := pTerm_same e1
    have l1 := pTerm_lt e1
    split at h
    · cases h; exact ⟨by omega, s1.2.1, s1.2.2.1, s1.2.2.2, l1, fun h => by cases h⟩
    · next t2 e2 =>
      obtain ⟨rfl, l2⟩ := pCmp_same e2
      have n2 : t1.adv.at_ = t1.at_ + 1 := rfl
      split at h
      · cases h; exact ⟨by omega, s1.2.1, s1.2.2.1, s1.2.2.2, by omega, fun h => by cases h⟩
      · next t3 e3 =>
        have s3 := pTerm_same e3
        have l3 := pTerm_lt e3
        cases h
        exact ⟨by omega, s3.2.1.trans s1.2.1, s3.2.2.1.trans s1.2.2.1, s3.2.2.2.trans s1.2.2.2, l3, fun _ => by omega⟩
/-- The condition that stands at a place. -/
def cdOf (s : ByteArray) (p : Nat) : Tm × Tm := (tmOf s p, tmOf s (p + 2))
theorem tmOf_at {s : ByteArray} {t t' : T} (h : pTerm s t = some t') : (tmOf s t.at_).2.2 = (t.at_ : Int) := by
  unfold pTerm at h
  cases h1 : num? s t.at_ 48 0 3 with
  | some k => unfold tmOf; rw [num_disj h1, h1]
  | none =>
    cases h2 : num? s t.at_ 97 0 2 with
    | some k => unfold tmOf; rw [h2]
    | none => simp [h1, h2] at h

section
variable {B M : Nat} {ty : TypeId} {rest : List Value} {s : ByteArray} {t : T} {w : World}
set_option maxRecDepth 100000 in
set_option maxHeartbeats 1600000 in
theorem cond_no {t' : T} (hs : s.size ≤ 120) (hat : t.at_ ≤ s.size) (hb : RG B M ty rest s t w) (hp : pCond s t = (false, t')) :
    Calls Tryz.prog 110 #[.pointer (some ⟨B, 0, none⟩)] w fun e w' => e = .returned (.tuple #[.nilFunc, .bool false]) ∧ RG B M ty rest s t' w' ∧ Ex B w w' := by
  unfold pCond at hp
  cases h1 : pTerm s t with
  | none =>
    simp [h1] at hp; subst hp
    go_enter Tryz.func110, Tryz.ntmps110
    go_wp2_with fail
    refine (term_no hs hat hb h1).mono ?_; rintro e w1 ⟨rfl, hb1, hx1⟩
    go_wp2
    go_ret2
    exact ⟨rfl, hb1, hx1⟩
  | some t1 =>
    have l1 := pTerm_lt h1
    cases h2 : pCmp s t1 with
    | none =>
      simp [h1, h2] at hp; subst hp
      go_enter Tryz.func110, Tryz.ntmps110
      go_wp2_with fail
      refine (term_yes hs hat hb h1).mono ?_; rintro e w1 ⟨⟨f1, a1, rfl, hf1⟩, hb1, hx1⟩
      go_wp2_with fail
      refine (oneOf_no signs l1 hb1 (pCmp_none h2)).mono ?_; rintro e w2 ⟨rfl, hb2, hx2⟩
      go_wp2
      go_ret2
      exact ⟨rfl, hb2, hx1.trans hx2⟩
    | some t2 =>
      obtain ⟨k, hk, hkk, hby⟩ := pCmp_some h2
      obtain ⟨rfl, l2⟩ := pCmp_same h2
      cases h3 : pTerm s t1.adv with
      | none =>
        simp [h1, h2, h3] at hp; subst hp
        clear hkk hby
        go_enter Tryz.func110, Tryz.ntmps110
        go_wp2_with fail
        refine (term_yes hs hat hb h1).mono ?_; rintro e w1 ⟨⟨f1, a1, rfl, hf1⟩, hb1, hx1⟩
        go_wp2_with fail
        refine (oneOf_yes signs k hs hb1 hk).mono ?_; rintro e w2 ⟨rfl, hb2, hx2⟩
        go_wp2_with fail
        refine (term_no (t := t1.adv) hs l2 hb2 h3).mono ?_; rintro e w3 ⟨rfl, hb3, hx3⟩
        go_wp2
        go_ret2
        exact ⟨rfl, hb3, (hx1.trans hx2).trans hx3⟩
      | some t3 => simp [h1, h2, h3] at hp
set_option maxRecDepth 100000 in
set_option maxHeartbeats 1600000 in
theorem cond_yes {t' : T} (hty : soft ty = true) (hs : s.size ≤ 120) (hat : t.at_ ≤ s.size) (hb : RG B M ty rest s t w) (hp : pCond s t = (true, t')) :
    Calls Tryz.prog 110 #[.pointer (some ⟨B, 0, none⟩)] w fun e w' => (∃ f a, e = .returned (.tuple #[.func f #[] a, .bool true]) ∧ FnK 0 w' (.func f #[] a) (fun y => .bool (cdP s (cdOf s t.at_) y))) ∧ RG B M ty rest s t' w' ∧ Ex B w w' := by
  unfold pCond at hp
  cases h1 : pTerm s t with
  | none => simp [h1] at hp
  | some t1 =>
    have l1 := pTerm_lt h1
    have s1 := (pTerm_same h1).1
    have a1' := tmOf_at h1
    cases h2 : pCmp s t1 with
    | none => simp [h1, h2] at hp
    | some t2 =>
      obtain ⟨k, hk, hkk, hby⟩ := pCmp_some h2
      obtain ⟨rfl, l2⟩ := pCmp_same h2
      cases h3 : pTerm s t1.adv with
      | none => simp [h1, h2, h3] at hp
      | some t3 =>
        simp [h1, h2, h3] at hp; subst hp
        have HC : Put (∀ y, cdP s (cdOf s t.at_) y = cmpP k (tmV (tmOf s t.at_) y) (tmV (tmOf s t1.adv.at_) y)) := ⟨fun y => by
          unfold cdP cdOf
          have e2 : t1.adv.at_ = t.at_ + 2 := by show t1.at_ + 1 = _; omega
          simp only [a1', e2, hby, s1, Int.toNat_natCast]⟩
        clear hby a1' s1
        go_enter Tryz.func110, Tryz.ntmps110
        go_wp2_with fail
        refine (term_yes hs hat hb h1).mono ?_; rintro e w1 ⟨⟨f1, a1, rfl, hf1⟩, hb1, hx1⟩
        go_wp2_with fail
        refine (oneOf_yes signs k hs hb1 hk).mono ?_; rintro e w2 ⟨rfl, hb2, hx2⟩
        go_wp2_with fail
        refine (term_yes (t := t1.adv) hs l2 hb2 h3).mono ?_; rintro e w3 ⟨⟨f3, a3, rfl, hf3⟩, hb3, hx3⟩
        have hf1' := hf1.kp ((Kp.of_ex hx2 hb1.blk hty).trans (Kp.of_ex hx3 hb2.blk hty))
        have HH : Put (_ ∧ _ ∧ _) := ⟨hf1', hf3, (hx1.trans hx2).trans hx3⟩
        have HB : Put (_) := ⟨hb3⟩
        clear hf1 hf1' hf3 hx1 hx2 hx3 hb1 hb2 hb3 h1 h2 h3 hk
        go_wp2_with fail
        refine (compare_any k hkk _ _ _ _ _ _ w3 HH.out.1 HH.out.2.1).mono ?_; rintro e w4 ⟨⟨f4, a4, rfl, hf4⟩, hb4⟩
        have HF : Put (FnK 0 w4 (.func f4 #[] a4) (fun y => .bool (cdP s (cdOf s t.at_) y))) := ⟨by
          have : (fun y => Value.bool (cdP s (cdOf s t.at_) y)) = (fun y => Value.bool (cmpP k (tmV (tmOf s t.at_) y) (tmV (tmOf s t1.adv.at_) y))) := by funext y; rw [HC.out]
          rw [this]; exact hf4⟩
        have HX : Put (Ex B w w4) := ⟨HH.out.2.2.trans (Ex.of_below hb4)⟩
        have HG : Put (RG B M ty rest s t3 w4) := ⟨HB.out.move (hb4.block _ HB.out.lt) (hb4.block _ (Nat.lt_trans HB.out.lo HB.out.lt))⟩
        clear hf4 hb4 HB HH HC
        go_wp2
        go_ret2
        exact ⟨⟨_, _, rfl, HF.out⟩, HG.out, HX.out⟩
end
end Go.Proofs.YtgoebckimmofoaaGreatDoor

/- The code's reader of formulas, as a function of the text. Our own text: no walk in it. -/
namespace Go.Proofs.YtgoebckimmofoaaGreatDoor
open Go.RowKit Go.Lib

/-- What a formula tells of a place: of a state and of the parts that hold there. -/
abbrev G := Nat → Nat → Bool
/-- A part: whether it holds here, by here and next; whether it does where it is put off for ever; where it is settled. -/
structure Pt where
  h : Nat → Nat → Nat → Nat → Bool
  e : Bool
  z : G
def putOff (f g : G) (e : Bool) (ps : List Pt) : G × List Pt :=
  (fun _ b => b.testBit ps.length, ps ++ [⟨fun x b _ b' => g x b || (f x b && b'.testBit ps.length), e, fun x b => (b.testBit ps.length == e) || (g x b || !f x b)⟩])
/-- What a sign makes of those on its sides. -/
def bld (o : Nat) (f g : G) (ps : List Pt) : G × List Pt :=
  if o = 33 then (fun x b => !g x b, ps)
  else if o = 38 then (fun x b => f x b && g x b, ps)
  else if o = 124 then (fun x b => f x b || g x b, ps)
  else if o = 88 then (fun _ b => b.testBit ps.length, ps ++ [⟨fun _ _ x' b' => g x' b', false, fun _ _ => true⟩])
  else if o = 70 then putOff (fun _ _ => true) g false ps
  else if o = 71 then putOff g (fun _ _ => false) true ps
  else if o = 85 then putOff f g false ps
  else if o = 82 then putOff g (fun x b => f x b && g x b) true ps
  else putOff f g true ps
theorem bld_un {o : Nat} (ho : o = 33 ∨ o = 88 ∨ o = 70 ∨ o = 71) (f f' g : G) (ps : List Pt) : bld o f g ps = bld o f' g ps := by
  rcases ho with rfl | rfl | rfl | rfl <;> rfl
/-- Signs of time. -/
def wt (o : Nat) : Nat := if o = 88 ∨ o = 70 ∨ o = 71 ∨ o = 85 ∨ o = 82 ∨ o = 87 then 1 else 0
theorem bld_len {o : Nat} (ho : o = 33 ∨ o = 88 ∨ o = 70 ∨ o = 71 ∨ o = 38 ∨ o = 124 ∨ o = 85 ∨ o = 82 ∨ o = 87) (f g : G) (ps : List Pt) : (bld o f g ps).2.length = ps.length + wt o := by
  rcases ho with rfl | rfl | rfl | rfl | rfl | rfl | rfl | rfl | rfl <;> simp [bld, putOff, wt]

def aheads : ByteArray := ⟨#[33, 88, 70, 71]⟩
def pairs : ByteArray := ⟨#[85, 82, 87]⟩
def ands : ByteArray := ⟨#[38]⟩
def ors : ByteArray := ⟨#[124]⟩
def inS (l : ByteArray) (o : Nat) : Bool := decide (o.toUInt8 ∈ l.data.toList)
/-- Where the reader is: what it hangs on besides. -/
structure C where
  t : T
  opn : Nat
  deep : Nat
  st : List (Nat × G)
  ps : List Pt
  g : G
  sg : Nat
def endP (l : ByteArray) : List (Nat × G) → G → List Pt → G × List (Nat × G) × List Pt
  | [], g, ps => (g, [], ps)
  | e :: st, g, ps => if inS l e.1 then endP l st (bld e.1 e.2 g ps).1 (bld e.1 e.2 g ps).2 else (g, e :: st, ps)
def C.fin (c : C) (l : ByteArray) : C := { c with g := (endP l c.st c.g c.ps).1, st := (endP l c.st c.g c.ps).2.1, ps := (endP l c.st c.g c.ps).2.2 }
def waitsP (l : ByteArray) : List (Nat × G) → Bool
  | [] => false
  | e :: _ => inS l e.1
def C.opens (c : C) : C := { c with t := c.t.adv, st := (40, c.g) :: c.st, opn := c.opn + 1, deep := if 10 < c.opn + 1 ∧ c.deep = 0 then c.t.at_ else c.deep }
def C.closes (c : C) : C := { c with t := c.t.adv, st := c.st.tail, opn := c.opn - 1 }
def C.sign (c : C) (o : Nat) : C := { c with t := c.t.adv, sg := o }
def C.push (c : C) : C := { c with st := (c.sg, c.g) :: c.st }
def C.to (c : C) (t : T) : C := { c with t := t }
def C.is (c : C) (g : G) : C := { c with g := g }
section
variable (s : ByteArray) (k : Nat → C → Bool × C)
def st0 (c : C) : Bool × C := match num? s c.t.at_ 40 0 0 with
  | some _ => k 0 c.opens
  | none => match oneOf? s c.t.at_ aheads.data.toList with
    | some o => k 3 (c.sign o)
    | none => match num? s c.t.at_ 84 0 0 with
      | some _ => k 1 ((c.to c.t.adv).is (fun _ _ => true))
      | none => match pCond s c.t with
        | (true, t') => k 1 ((c.to t').is (fun x _ => cdP s (cdOf s c.t.at_) x))
        | (false, t') => (false, c.to t')
def stB (c : C) : Bool × C :=
  let c1 := c.fin ors
  if c1.opn = 0 then (decide (c1.t.at_ = s.size), c1) else match num? s c1.t.at_ 41 0 0 with
    | some _ => k 1 c1.closes
    | none => (false, c1)
def stA (c : C) : Bool × C :=
  let c1 := c.fin ands
  match oneOf? s c1.t.at_ ors.data.toList with
  | some o => k 3 (c1.sign o)
  | none => stB s k c1
def st2 (c : C) : Bool × C :=
  let c1 := c.fin pairs
  match oneOf? s c1.t.at_ ands.data.toList with
  | some o => k 3 (c1.sign o)
  | none => stA s k c1
def st1 (c : C) : Bool × C :=
  let c1 := c.fin aheads
  if waitsP pairs c1.st then k 2 c1 else match oneOf? s c1.t.at_ pairs.data.toList with
    | some o => k 3 (c1.sign o)
    | none => k 2 c1
end
/-- The reader from a label on: 0 one, 1 behindOne, 2 behindPair, 3 wait. -/
def fRun (s : ByteArray) : Nat → Nat → C → Bool × C
  | 0, _, c => (false, c)
  | m + 1, 0, c => st0 s (fRun s m) c
  | m + 1, 1, c => st1 s (fRun s m) c
  | m + 1, 2, c => st2 s (fRun s m) c
  | m + 1, _ + 3, c => fRun s m 0 c.push
theorem fRun0 (s : ByteArray) (m : Nat) (c : C) : fRun s (m + 1) 0 c = st0 s (fRun s m) c := rfl
theorem fRun1 (s : ByteArray) (m : Nat) (c : C) : fRun s (m + 1) 1 c = st1 s (fRun s m) c := rfl
theorem fRun2 (s : ByteArray) (m : Nat) (c : C) : fRun s (m + 1) 2 c = st2 s (fRun s m) c := rfl
theorem fRun3 (s : ByteArray) (m : Nat) (c : C) : fRun s (m + 1) 3 c = fRun s m 0 c.push := rfl
/-- How many steps are left at most. -/
def Mz (s : ByteArray) (lab : Nat) (c : C) : Nat := 2 * (s.size - c.t.at_) + 1 + lab % 2

end Go.Proofs.YtgoebckimmofoaaGreatDoor

/- One bit of eight. Our own text: no walk in it. -/
namespace Go.Proofs.YtgoebckimmofoaaGreatDoor
end Go.Proofs.YtgoebckimmofoaaGreatDoor

/- Sets of parts: the program's functions on them; a place's marks. Our own text. -/
namespace Go.Proofs.YtgoebckimmofoaaGreatDoor
open Go.RowKit Go.Lib

def bit8 (n : Nat) : Nat := if n < 8 then 2 ^ n else 0
theorem wrap_pow8 (n : Nat) : ((2 : Int) ^ min n 8) % 256 = ((bit8 n : Nat) : Int) := by
  unfold bit8
  split
  · obtain rfl | rfl | rfl | rfl | rfl | rfl | rfl | rfl : n = 0 ∨ n = 1 ∨ n = 2 ∨ n = 3 ∨ n = 4 ∨ n = 5 ∨ n = 6 ∨ n = 7 := by omega
    all_goals rfl
  · rw [show min n 8 = 8 by omega]; rfl
theorem oneP_any (n : Nat) (_hn : n < 64) (w : World) :
    Calls Tryz.prog 176 #[.int .i64 n] w fun e w' => e = .returned (.int .u8 (bit8 n : Nat)) ∧ w' = w := by
  have h0 : decide ((n : Int) < 0) = false := by simp
  go_enter Tryz.func176, Tryz.ntmps176
  go_wp2
  go_ret
  refine ⟨?_, rfl⟩
  exact congrArg (fun z => Ending.returned (Value.int .u8 z)) (wrap_pow8 n)
theorem and8_fin : ∀ (m : Fin 256) (n : Fin 8), (bits .and .u8 (m.val : Int) ((2 ^ n.val : Nat) : Int) != 0) = m.val.testBit n.val := by decide +kernel
theorem and8_zero : ∀ (m : Fin 256), (bits .and .u8 (m.val : Int) 0 != 0) = false := by decide +kernel
theorem has8 {b n : Nat} (hb : b < 256) : (bits .and .u8 (b : Int) ((bit8 n : Nat) : Int) != 0) = b.testBit n := by
  unfold bit8
  split
  · next h => exact and8_fin ⟨b, hb⟩ ⟨n, h⟩
  · have : b.testBit n = false := Nat.testBit_lt_two_pow (Nat.lt_of_lt_of_le hb (by
      rw [show 256 = 2 ^ 8 from rfl]; exact Nat.pow_le_pow_right (by omega) (by omega)))
    rw [this]
    exact and8_zero ⟨b, hb⟩
theorem hasP_any (b n : Nat) (hb : b < 256) (hn : n < 64) (w : World) :
    Calls Tryz.prog 219 #[.int .u8 b, .int .i64 n] w fun e w' => e = .returned (.bool (b.testBit n)) ∧ w' = w := by
  have HV : Put (_ = _) := ⟨has8 (n := n) hb⟩
  go_enter Tryz.func219, Tryz.ntmps219
  go_wp2_with fail
  refine (oneP_any n hn w).mono ?_
  rintro e w' ⟨rfl, rfl⟩
  go_wp2
  go_ret
  refine ⟨?_, rfl⟩
  rw [← HV.out]; rfl
end Go.Proofs.YtgoebckimmofoaaGreatDoor
