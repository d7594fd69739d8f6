import Derived.Test.YtgoebckimmofoaaDoorP13
import Derived.MapKept
import Derived.Lib.Bytealg
import Derived.Deep.RegionLaw
import Derived.Deep.RegionHeld3
import Derived.Lib.IndexLaws
import Derived.Test.YtgoebckimmofoaaDoorP2
/- Conditions as they are read: the signs, what they make. Our own text. -/
namespace Go.Proofs.YtgoebckimmofoaaDoor
open Go.RowKit Go.Lib

/-! A map from bytes to function values. -/
theorem run_put (r : Nat) (es : Array MapEntry) (clock k : Nat) (v : Value) (W : World) (hb : W.heap[r]? = some (.map es clock)) (hk : ∀ x ∈ es.toList, MapKept.IsKey (.int .u8) x.key ∧ x.key ≠ .int .u8 k) :
    (Instr.mapUpdate 164 (.map (some r)) (.int .u8 k) v).run Tryd.prog W = .ok () { W with heap := W.heap.setIfInBounds r (.map (es.push { key := .int .u8 k, val := v, born := clock }) (clock + 1)) } := by
  have hk0 : MapKept.IsKey (.int .u8) (.int .u8 k) := by trivial
  rcases MapKept.findNow_spec hk0 es.toList 0 (fun x hx => (hk x hx).1) with ⟨h1, h2⟩ | ⟨j, e, h1, h2, h3⟩
  · simp [Instr.mapUpdate, run_underlying Tryd.underlying164, MapKept.run_getObj_map hb, MapKept.run_checkKey Tryd.underlying5 hk0, MapKept.run_findKey Tryd.underlying5 h1, MapKept.run_setObj_map _ hb, Result.andThen]
  · exact absurd h3 (hk e (List.mem_of_getElem? (by simpa using h2))).2
theorem run_get (r : Nat) (es : Array MapEntry) (clock k : Nat) (v : Value) (W : World) (hb : W.heap[r]? = some (.map es clock)) (hk : ∀ x ∈ es.toList, MapKept.IsKey (.int .u8) x.key ∧ (x.key = .int .u8 k → x.val = v)) (hin : ∃ x ∈ es.toList, x.key = .int .u8 k) :
    (Instr.lookup 164 (.map (some r)) (.int .u8 k) false).run Tryd.prog W = .ok v W := by
  have hk0 : MapKept.IsKey (.int .u8) (.int .u8 k) := by trivial
  rcases MapKept.findNow_spec hk0 es.toList 0 (fun x hx => (hk x hx).1) with ⟨h1, h2⟩ | ⟨j, e, h1, h2, h3⟩
  · obtain ⟨x, hx, he⟩ := hin
    exact absurd he (h2 x hx)
  · have hv := (hk e (List.mem_of_getElem? (by simpa using h2))).2 h3
    rw [hv] at h1
    simp [Instr.lookup, run_underlying Tryd.underlying164, MapKept.run_getObj_map hb, MapKept.run_checkKey Tryd.underlying5 hk0, MapKept.run_findKey Tryd.underlying5 h1, Result.andThen]
/-- The entries of a list of signs and functions, the last one put in first of the list. -/
def entsOf : List (Nat × Nat) → List MapEntry
  | [] => []
  | e :: l => entsOf l ++ [{ key := .int .u8 e.1, val := .func (.func e.2) #[] #[], born := l.length }]
def MapAt (W : World) (r : Nat) (l : List (Nat × Nat)) : Prop := W.heap[r]? = some (.map (entsOf l).toArray l.length)
theorem entsOf_mem {x : MapEntry} : ∀ {l : List (Nat × Nat)}, x ∈ entsOf l → ∃ e ∈ l, x.key = .int .u8 e.1 ∧ x.val = .func (.func e.2) #[] #[]
  | e :: l, h => by
    unfold entsOf at h
    rcases List.mem_append.1 h with h | h
    · obtain ⟨e', h1, h2⟩ := entsOf_mem h
      exact ⟨e', by simp [h1], h2⟩
    · simp at h; subst h; exact ⟨e, by simp, rfl, rfl⟩
theorem mem_entsOf {e : Nat × Nat} : ∀ {l : List (Nat × Nat)}, e ∈ l → ∃ x ∈ entsOf l, x.key = .int .u8 e.1
  | a :: l, h => by
    rcases List.mem_cons.1 h with rfl | h
    · exact ⟨{ key := .int .u8 e.1, val := .func (.func e.2) #[] #[], born := l.length }, by unfold entsOf; simp, rfl⟩
    · obtain ⟨x, h1, h2⟩ := mem_entsOf h
      exact ⟨x, by unfold entsOf; simp [h1], h2⟩
theorem put_map {W : World} {r : Nat} {l : List (Nat × Nat)} (h : MapAt W r l) (k f : Nat) (hk : ∀ e ∈ l, e.1 ≠ k) :
    ∃ W', (Instr.mapUpdate 164 (.map (some r)) (.int .u8 k) (.func (.func f) #[] #[])).run Tryd.prog W = .ok () W' ∧ MapAt W' r ((k, f) :: l) ∧ Ex r W W' := by
  refine ⟨_, run_put r _ _ k _ W h ?_, ?_, ?_⟩
  · intro x hx
    obtain ⟨e, he, h1, h2⟩ := entsOf_mem (l := l) (by simpa using hx)
    rw [h1]
    refine ⟨by trivial, ?_⟩
    intro h3
    simp at h3
    exact hk e he (by omega)
  · unfold MapAt
    have := (MapKept.heap_set (o' := .map ((entsOf l).toArray.push { key := .int .u8 k, val := .func (.func f) #[] #[], born := l.length }) (l.length + 1)) h).1
    simpa [entsOf] using this
  · exact ⟨rfl, rfl, rfl, by simp, fun i _ hi => (MapKept.heap_set h).2 i hi⟩
theorem get_map {W : World} {r : Nat} {l : List (Nat × Nat)} (h : MapAt W r l) (k f : Nat) (hin : (k, f) ∈ l) (hu : ∀ e ∈ l, e.1 = k → e.2 = f) :
    (Instr.lookup 164 (.map (some r)) (.int .u8 k) false).run Tryd.prog W = .ok (.func (.func f) #[] #[]) W := by
  refine run_get r _ _ k _ W h ?_ ?_
  · intro x hx
    obtain ⟨e, he, h1, h2⟩ := entsOf_mem (l := l) (by simpa using hx)
    rw [h1]
    refine ⟨by trivial, ?_⟩
    intro h3
    simp at h3
    rw [h2, hu e he (by omega)]
  · obtain ⟨x, h1, h2⟩ := mem_entsOf hin
    exact ⟨x, by simpa using h1, h2⟩

theorem equals_any (a b : Value) (ha : a.oneCell' = true) (hb : b.oneCell' = true) (w : World) :
    Calls Tryd.prog 92 #[a, b] w fun e w' => e = .returned (.func (.func 96) #[] #[.pointer (some ⟨w.heap.size, 0, none⟩), .pointer (some ⟨w.heap.size + 1, 0, none⟩)]) ∧ w' = (w.alloc (.cells #[a] 153)).alloc (.cells #[b] 153) := by
  have hmf : ∀ (fn : Fn) (first cap : Array Value) (w : World), (Instr.makeFunc fn first cap).run Tryd.prog w = .ok (.func fn first cap) w := fun _ _ _ _ => rfl
  go_enter Tryd.func92, Tryd.ntmps92
  go_wp2
  go_ret
  exact ⟨rfl, rfl⟩
theorem differs_any (a b : Value) (ha : a.oneCell' = true) (hb : b.oneCell' = true) (w : World) :
    Calls Tryd.prog 93 #[a, b] w fun e w' => e = .returned (.func (.func 97) #[] #[.pointer (some ⟨w.heap.size, 0, none⟩), .pointer (some ⟨w.heap.size + 1, 0, none⟩)]) ∧ w' = (w.alloc (.cells #[a] 153)).alloc (.cells #[b] 153) := by
  have hmf : ∀ (fn : Fn) (first cap : Array Value) (w : World), (Instr.makeFunc fn first cap).run Tryd.prog w = .ok (.func fn first cap) w := fun _ _ _ _ => rfl
  go_enter Tryd.func93, Tryd.ntmps93
  go_wp2
  go_ret
  exact ⟨rfl, rfl⟩
theorem isBelow_any (a b : Value) (ha : a.oneCell' = true) (hb : b.oneCell' = true) (w : World) :
    Calls Tryd.prog 94 #[a, b] w fun e w' => e = .returned (.func (.func 98) #[] #[.pointer (some ⟨w.heap.size, 0, none⟩), .pointer (some ⟨w.heap.size + 1, 0, none⟩)]) ∧ w' = (w.alloc (.cells #[a] 153)).alloc (.cells #[b] 153) := by
  have hmf : ∀ (fn : Fn) (first cap : Array Value) (w : World), (Instr.makeFunc fn first cap).run Tryd.prog w = .ok (.func fn first cap) w := fun _ _ _ _ => rfl
  go_enter Tryd.func94, Tryd.ntmps94
  go_wp2
  go_ret
  exact ⟨rfl, rfl⟩

set_option maxRecDepth 100000 in
set_option maxHeartbeats 1600000 in
theorem equals1_any (bl br y : Nat) (hy : y < 64) (vl vr : Value) (L R : Nat → Nat) (w W : World) (hW : Kp 0 w W) (h0 : 0 < W.heap.size) (hT : Tab W) (hl : FnK 0 w vl (fun x => .int .i64 (L x : Nat))) (hr : FnK 0 w vr (fun x => .int .i64 (R x : Nat)))
    (b2 : W.heap[bl]? = some (.cells #[vl] 153 (0, 0))) (b3 : W.heap[br]? = some (.cells #[vr] 153 (0, 0))) :
    Calls Tryd.prog 96 #[.int .u8 (y : Nat), .pointer (some ⟨bl, 0, none⟩), .pointer (some ⟨br, 0, none⟩)] W fun e W' => e = .returned (.bool (cmpP 61 (L y) (R y))) ∧ Below W.heap.size W W' := by
  obtain ⟨fl, cl, rfl, el, kl⟩ := hl
  obtain ⟨fr, cr, rfl, er, kr⟩ := hr
  have c2 := box_cell b2
  have c3 := box_cell b3
  have hL : ∀ W2, Below W.heap.size W W2 → Calls Tryd.prog fl (#[.int .u8 (y : Nat)] ++ cl) W2 fun e W' => e = .returned (.int .i64 ((L y : Nat) : Int)) ∧ Below W2.heap.size W2 W' := fun W2 h2 => kl W2 (hW.trans (Kp.of_below h2)) (Nat.lt_of_lt_of_le h0 h2.size) (hT.below h2 h0) y hy
  have hR : ∀ W2, Below W.heap.size W W2 → Calls Tryd.prog fr (#[.int .u8 (y : Nat)] ++ cr) W2 fun e W' => e = .returned (.int .i64 ((R y : Nat) : Int)) ∧ Below W2.heap.size W2 W' := fun W2 h2 => kr W2 (hW.trans (Kp.of_below h2)) (Nat.lt_of_lt_of_le h0 h2.size) (hT.below h2 h0) y hy
  have l2 := lt_of_block b2
  have l3 := lt_of_block b3
  generalize L y = a at *
  generalize R y = b at *
  have hC : cmpP 61 a b = ((a : Int) == (b : Int)) := (cmpP_same (op := 61) rfl rfl rfl).symm
  have HC : Put (_ = _) := ⟨hC⟩
  clear b2 b3 kl kr hW hC
  have hdr : Below W.heap.size W W.drew := ⟨rfl, rfl, rfl, Nat.le_refl _, fun _ _ => rfl⟩
  have HL : Put (_) := ⟨hL⟩
  have HR : Put (_) := ⟨hR⟩
  clear hL hR hT
  rw [HC.out]
  go_enter Tryd.func96, Tryd.ntmps96
  go_wp2_with fail
  go_region_held3 (fun w' => ∀ b o, b < W.heap.size → w'.cell? ⟨b, o, none⟩ = W.cell? ⟨b, o, none⟩)
    (first
      | exact fun b o hb => (hbR'.cell (p := ⟨b, o, none⟩) hb)
      | exact fun b o hb => (hbL'.cell (p := ⟨b, o, none⟩) hb)
      | exact fun _ _ _ => rfl
      | go_keep)
    (first
      | (with_reducible refine (HR.out wL hbL').mono ?_; rintro e wR ⟨rfl, hbR⟩; have hbR' : Below W.heap.size W wR := hbL'.trans (hbR.mono hbL'.size))
      | (refine (HL.out W.drew hdr).mono ?_; rintro e wL ⟨rfl, hbL⟩; have hbL' : Below W.heap.size W wL := hdr.trans hbL))
  all_goals
    go_wp2
    go_ret
    exact ⟨rfl, hbR'⟩
set_option maxRecDepth 100000 in
set_option maxHeartbeats 1600000 in
theorem differs1_any (bl br y : Nat) (hy : y < 64) (vl vr : Value) (L R : Nat → Nat) (w W : World) (hW : Kp 0 w W) (h0 : 0 < W.heap.size) (hT : Tab W) (hl : FnK 0 w vl (fun x => .int .i64 (L x : Nat))) (hr : FnK 0 w vr (fun x => .int .i64 (R x : Nat)))
    (b2 : W.heap[bl]? = some (.cells #[vl] 153 (0, 0))) (b3 : W.heap[br]? = some (.cells #[vr] 153 (0, 0))) :
    Calls Tryd.prog 97 #[.int .u8 (y : Nat), .pointer (some ⟨bl, 0, none⟩), .pointer (some ⟨br, 0, none⟩)] W fun e W' => e = .returned (.bool (cmpP 35 (L y) (R y))) ∧ Below W.heap.size W W' := by
  obtain ⟨fl, cl, rfl, el, kl⟩ := hl
  obtain ⟨fr, cr, rfl, er, kr⟩ := hr
  have c2 := box_cell b2
  have c3 := box_cell b3
  have hL : ∀ W2, Below W.heap.size W W2 → Calls Tryd.prog fl (#[.int .u8 (y : Nat)] ++ cl) W2 fun e W' => e = .returned (.int .i64 ((L y : Nat) : Int)) ∧ Below W2.heap.size W2 W' := fun W2 h2 => kl W2 (hW.trans (Kp.of_below h2)) (Nat.lt_of_lt_of_le h0 h2.size) (hT.below h2 h0) y hy
  have hR : ∀ W2, Below W.heap.size W W2 → Calls Tryd.prog fr (#[.int .u8 (y : Nat)] ++ cr) W2 fun e W' => e = .returned (.int .i64 ((R y : Nat) : Int)) ∧ Below W2.heap.size W2 W' := fun W2 h2 => kr W2 (hW.trans (Kp.of_below h2)) (Nat.lt_of_lt_of_le h0 h2.size) (hT.below h2 h0) y hy
  have l2 := lt_of_block b2
  have l3 := lt_of_block b3
  generalize L y = a at *
  generalize R y = b at *
  have hC : cmpP 35 a b = ((a : Int) != (b : Int)) := (cmpP_same (op := 35) rfl rfl rfl).symm
  have HC : Put (_ = _) := ⟨hC⟩
  clear b2 b3 kl kr hW hC
  have hdr : Below W.heap.size W W.drew := ⟨rfl, rfl, rfl, Nat.le_refl _, fun _ _ => rfl⟩
  have HL : Put (_) := ⟨hL⟩
  have HR : Put (_) := ⟨hR⟩
  clear hL hR hT
  rw [HC.out]
  go_enter Tryd.func97, Tryd.ntmps97
  go_wp2_with fail
  go_region_held3 (fun w' => ∀ b o, b < W.heap.size → w'.cell? ⟨b, o, none⟩ = W.cell? ⟨b, o, none⟩)
    (first
      | exact fun b o hb => (hbR'.cell (p := ⟨b, o, none⟩) hb)
      | exact fun b o hb => (hbL'.cell (p := ⟨b, o, none⟩) hb)
      | exact fun _ _ _ => rfl
      | go_keep)
    (first
      | (with_reducible refine (HR.out wL hbL').mono ?_; rintro e wR ⟨rfl, hbR⟩; have hbR' : Below W.heap.size W wR := hbL'.trans (hbR.mono hbL'.size))
      | (refine (HL.out W.drew hdr).mono ?_; rintro e wL ⟨rfl, hbL⟩; have hbL' : Below W.heap.size W wL := hdr.trans hbL))
  all_goals
    go_wp2
    go_ret
    exact ⟨rfl, hbR'⟩
set_option maxRecDepth 100000 in
set_option maxHeartbeats 1600000 in
theorem isBelow1_any (bl br y : Nat) (hy : y < 64) (vl vr : Value) (L R : Nat → Nat) (w W : World) (hW : Kp 0 w W) (h0 : 0 < W.heap.size) (hT : Tab W) (hl : FnK 0 w vl (fun x => .int .i64 (L x : Nat))) (hr : FnK 0 w vr (fun x => .int .i64 (R x : Nat)))
    (b2 : W.heap[bl]? = some (.cells #[vl] 153 (0, 0))) (b3 : W.heap[br]? = some (.cells #[vr] 153 (0, 0))) :
    Calls Tryd.prog 98 #[.int .u8 (y : Nat), .pointer (some ⟨bl, 0, none⟩), .pointer (some ⟨br, 0, none⟩)] W fun e W' => e = .returned (.bool (cmpP 60 (L y) (R y))) ∧ Below W.heap.size W W' := by
  obtain ⟨fl, cl, rfl, el, kl⟩ := hl
  obtain ⟨fr, cr, rfl, er, kr⟩ := hr
  have c2 := box_cell b2
  have c3 := box_cell b3
  have hL : ∀ W2, Below W.heap.size W W2 → Calls Tryd.prog fl (#[.int .u8 (y : Nat)] ++ cl) W2 fun e W' => e = .returned (.int .i64 ((L y : Nat) : Int)) ∧ Below W2.heap.size W2 W' := fun W2 h2 => kl W2 (hW.trans (Kp.of_below h2)) (Nat.lt_of_lt_of_le h0 h2.size) (hT.below h2 h0) y hy
  have hR : ∀ W2, Below W.heap.size W W2 → Calls Tryd.prog fr (#[.int .u8 (y : Nat)] ++ cr) W2 fun e W' => e = .returned (.int .i64 ((R y : Nat) : Int)) ∧ Below W2.heap.size W2 W' := fun W2 h2 => kr W2 (hW.trans (Kp.of_below h2)) (Nat.lt_of_lt_of_le h0 h2.size) (hT.below h2 h0) y hy
  have l2 := lt_of_block b2
  have l3 := lt_of_block b3
  generalize L y = a at *
  generalize R y = b at *
  have hC : cmpP 60 a b = decide ((a : Int) < (b : Int)) := (cmpP_same (op := 60) rfl rfl rfl).symm
  have HC : Put (_ = _) := ⟨hC⟩
  clear b2 b3 kl kr hW hC
  have hdr : Below W.heap.size W W.drew := ⟨rfl, rfl, rfl, Nat.le_refl _, fun _ _ => rfl⟩
  have HL : Put (_) := ⟨hL⟩
  have HR : Put (_) := ⟨hR⟩
  clear hL hR hT
  rw [HC.out]
  go_enter Tryd.func98, Tryd.ntmps98
  go_wp2_with fail
  go_region_held3 (fun w' => ∀ b o, b < W.heap.size → w'.cell? ⟨b, o, none⟩ = W.cell? ⟨b, o, none⟩)
    (first
      | exact fun b o hb => (hbR'.cell (p := ⟨b, o, none⟩) hb)
      | exact fun b o hb => (hbL'.cell (p := ⟨b, o, none⟩) hb)
      | exact fun _ _ _ => rfl
      | go_keep)
    (first
      | (with_reducible refine (HR.out wL hbL').mono ?_; rintro e wR ⟨rfl, hbR⟩; have hbR' : Below W.heap.size W wR := hbL'.trans (hbR.mono hbL'.size))
      | (refine (HL.out W.drew hdr).mono ?_; rintro e wL ⟨rfl, hbL⟩; have hbL' : Below W.heap.size W wL := hdr.trans hbL))
  all_goals
    go_wp2
    go_ret
    refine ⟨?_, hbR'⟩
    show Ending.returned (Value.bool (decide (a < b))) = Ending.returned (Value.bool (decide ((a : Int) < (b : Int))))
    congr 2
    rw [Bool.eq_iff_iff]; simp

set_option maxRecDepth 100000 in
set_option maxHeartbeats 1600000 in
theorem compare_any (k : Nat) (hk : k = 61 ∨ k = 35 ∨ k = 60) (fl fr : Fn) (cl cr : Array Value) (L R : Nat → Nat) (w : World) (hl : FnK 0 w (.func fl #[] cl) (fun x => .int .i64 (L x : Nat))) (hr : FnK 0 w (.func fr #[] cr) (fun x => .int .i64 (R x : Nat))) :
    Calls Tryd.prog 83 #[.int .u8 (k : Nat), .func fl #[] cl, .func fr #[] cr] w fun e w' => (∃ f c, e = .returned (.func f #[] c) ∧ FnK 0 w' (.func f #[] c) (fun x => .bool (cmpP k (L x) (R x)))) ∧ Below w.heap.size w w' := by
  have hmk : (Instr.makeMap 164 none).run Tryd.prog w = .ok (.map (some w.heap.size)) (w.alloc (.map #[] 0)) := by simp [Instr.makeMap, Result.andThen]
  have m0 : MapAt (w.alloc (.map #[] 0)) w.heap.size [] := heap_alloc_new w (.map #[] 0)
  obtain ⟨W1, r1, m1, x1⟩ := put_map m0 61 92 (by simp)
  change (Instr.mapUpdate 164 (.map (some w.heap.size)) (.int .u8 61) (.func (.func 92) #[] #[])).run Tryd.prog (w.alloc (.map #[] 0)) = .ok () W1 at r1
  obtain ⟨W2, r2, m2, x2⟩ := put_map m1 35 93 (by simp)
  change (Instr.mapUpdate 164 (.map (some w.heap.size)) (.int .u8 35) (.func (.func 93) #[] #[])).run Tryd.prog W1 = .ok () W2 at r2
  obtain ⟨W3, r3, m3, x3⟩ := put_map m2 60 94 (by simp)
  change (Instr.mapUpdate 164 (.map (some w.heap.size)) (.int .u8 60) (.func (.func 94) #[] #[])).run Tryd.prog W2 = .ok () W3 at r3
  have hB : Below w.heap.size w W3 := ((Below.refl _ w).alloc (Nat.le_refl _) _).trans (((x1.trans x2).trans x3).below (Nat.le_refl _) (by simp))
  have hl3 := hl.kp (Kp.of_below hB)
  have hr3 := hr.kp (Kp.of_below hB)
  have HB : Put (_) := ⟨hB⟩
  have HM : Put (_ ∧ _) := ⟨hl3, hr3⟩
  have hsz : w.heap.size ≤ W3.heap.size := hB.size
  clear m0 m1 m2 x1 x2 x3 hB hl hr hl3 hr3
  rcases hk with rfl | rfl | rfl
  · have g := get_map m3 61 92 (by simp) (by simp)
    change (Instr.lookup 164 (.map (some w.heap.size)) (.int .u8 61) false).run Tryd.prog W3 = .ok (.func (.func 92) #[] #[]) W3 at g
    show Calls Tryd.prog 83 #[.int .u8 61, .func fl #[] cl, .func fr #[] cr] w _
    have en := enters_of Tryd.func92 (by kernel_rfl) rfl
    clear m3
    go_enter Tryd.func83, Tryd.ntmps83
    go_wp2_with fail
    refine (equals_any (.func fl #[] cl) (.func fr #[] cr) rfl rfl W3).mono ?_
    rintro e w4 ⟨rfl, rfl⟩
    go_wp2
    go_ret
    refine ⟨⟨_, _, rfl, 96, _, rfl, enters_of Tryd.func96 (by kernel_rfl) rfl, fun W hW h0 hT y hy => ?_⟩, (HB.out.alloc hsz _).alloc (by simp; omega) _⟩
    have k0 := ((Kp.alloc 0 W3 (.cells #[.func fl #[] cl] 153)).trans (Kp.alloc 0 _ (.cells #[.func fr #[] cr] 153)))
    have bx1 := ((Kp.alloc 0 _ (.cells #[.func fr #[] cr] 153)).trans hW).box (heap_alloc_new W3 (.cells #[.func fl #[] cl] 153))
    have bx2 := hW.box (heap_alloc_new (W3.alloc (.cells #[.func fl #[] cl] 153)) (.cells #[.func fr #[] cr] 153))
    rw [World.size_alloc] at bx2
    exact equals1_any _ _ y hy _ _ L R W3 W (k0.trans hW) h0 hT HM.out.1 HM.out.2 bx1 bx2
  · have g := get_map m3 35 93 (by simp) (by simp)
    change (Instr.lookup 164 (.map (some w.heap.size)) (.int .u8 35) false).run Tryd.prog W3 = .ok (.func (.func 93) #[] #[]) W3 at g
    show Calls Tryd.prog 83 #[.int .u8 35, .func fl #[] cl, .func fr #[] cr] w _
    have en := enters_of Tryd.func93 (by kernel_rfl) rfl
    clear m3
    go_enter Tryd.func83, Tryd.ntmps83
    go_wp2_with fail
    refine (differs_any (.func fl #[] cl) (.func fr #[] cr) rfl rfl W3).mono ?_
    rintro e w4 ⟨rfl, rfl⟩
    go_wp2
    go_ret
    refine ⟨⟨_, _, rfl, 97, _, rfl, enters_of Tryd.func97 (by kernel_rfl) rfl, fun W hW h0 hT y hy => ?_⟩, (HB.out.alloc hsz _).alloc (by simp; omega) _⟩
    have k0 := ((Kp.alloc 0 W3 (.cells #[.func fl #[] cl] 153)).trans (Kp.alloc 0 _ (.cells #[.func fr #[] cr] 153)))
    have bx1 := ((Kp.alloc 0 _ (.cells #[.func fr #[] cr] 153)).trans hW).box (heap_alloc_new W3 (.cells #[.func fl #[] cl] 153))
    have bx2 := hW.box (heap_alloc_new (W3.alloc (.cells #[.func fl #[] cl] 153)) (.cells #[.func fr #[] cr] 153))
    rw [World.size_alloc] at bx2
    exact differs1_any _ _ y hy _ _ L R W3 W (k0.trans hW) h0 hT HM.out.1 HM.out.2 bx1 bx2
  · have g := get_map m3 60 94 (by simp) (by simp)
    change (Instr.lookup 164 (.map (some w.heap.size)) (.int .u8 60) false).run Tryd.prog W3 = .ok (.func (.func 94) #[] #[]) W3 at g
    show Calls Tryd.prog 83 #[.int .u8 60, .func fl #[] cl, .func fr #[] cr] w _
    have en := enters_of Tryd.func94 (by kernel_rfl) rfl
    clear m3
    go_enter Tryd.func83, Tryd.ntmps83
    go_wp2_with fail
    refine (isBelow_any (.func fl #[] cl) (.func fr #[] cr) rfl rfl W3).mono ?_
    rintro e w4 ⟨rfl, rfl⟩
    go_wp2
    go_ret
    refine ⟨⟨_, _, rfl, 98, _, rfl, enters_of Tryd.func98 (by kernel_rfl) rfl, fun W hW h0 hT y hy => ?_⟩, (HB.out.alloc hsz _).alloc (by simp; omega) _⟩
    have k0 := ((Kp.alloc 0 W3 (.cells #[.func fl #[] cl] 153)).trans (Kp.alloc 0 _ (.cells #[.func fr #[] cr] 153)))
    have bx1 := ((Kp.alloc 0 _ (.cells #[.func fr #[] cr] 153)).trans hW).box (heap_alloc_new W3 (.cells #[.func fl #[] cl] 153))
    have bx2 := hW.box (heap_alloc_new (W3.alloc (.cells #[.func fl #[] cl] 153)) (.cells #[.func fr #[] cr] 153))
    rw [World.size_alloc] at bx2
    exact isBelow1_any _ _ y hy _ _ L R W3 W (k0.trans hW) h0 hT HM.out.1 HM.out.2 bx1 bx2
end Go.Proofs.YtgoebckimmofoaaDoor

/- A condition, read; one of a sign's bytes. Our own text. -/
namespace Go.Proofs.YtgoebckimmofoaaDoor
open Go.RowKit Go.Lib

set_option maxRecDepth 100000 in
theorem IndexByte2_any (s : ByteArray) (c : Int) (w : World) : Calls Tryd.prog 95 #[.string s, .int .u8 c] w fun e w' => e = .returned (.int .i64 (indexByte s.data.toList c.toNat.toUInt8)) ∧ w' = w := by
  go_enter Tryd.func95, Tryd.ntmps95
  go_wp2
  rw [run_callFunc_extern Tryd.func99 (by kernel_rfl) (by kernel_rfl) (by kernel_rfl) (e := Extern.BytealgIndexByte.indexByte) (by kernel_rfl), Lib.run_indexByteString]
  simp only [Result.andThen]
  rw [Oper.upon_value]
  go_wp2
  go_ret
  exact ⟨rfl, rfl⟩
theorem IndexByte_any (s : ByteArray) (c : Int) (w : World) : Calls Tryd.prog 91 #[.string s, .int .u8 c] w fun e w' => e = .returned (.int .i64 (indexByte s.data.toList c.toNat.toUInt8)) ∧ w' = w := by
  go_enter Tryd.func91, Tryd.ntmps91
  go_wp2_with fail
  refine (IndexByte2_any s c w).mono ?_
  rintro e w' ⟨rfl, rfl⟩
  go_wp2
  go_ret
  exact ⟨rfl, rfl⟩

/-- The byte at a place is one of these. -/
def oneOf? (s : ByteArray) (p : Nat) (l : List UInt8) : Option Nat := if h : p < s.size then (if s[p] ∈ l then some s[p].toNat else none) else none
theorem indexByte_mem {l : List UInt8} {c : UInt8} : indexByte l c < 0 ↔ c ∉ l := by
  constructor
  · intro h hc
    have h1 : indexByte l c = -1 := by have := indexByte_ge l c; omega
    obtain ⟨i, hi⟩ := List.getElem?_of_mem hc
    exact indexByte_none h1 i hi
  · intro h
    have := indexByte_ge l c
    by_cases h1 : indexByte l c = -1
    · omega
    · exfalso
      obtain ⟨o, ho⟩ : ∃ o : Nat, indexByte l c = o := ⟨(indexByte l c).toNat, by omega⟩
      exact h (List.mem_of_getElem? (indexByte_some ho).1)

section
variable {B M : Nat} {ty : TypeId} {rest : List Value} {s : ByteArray} {t : T} {w : World}
set_option maxRecDepth 100000 in
set_option maxHeartbeats 1600000 in
theorem oneOf_no (l : ByteArray) (hat : t.at_ ≤ s.size) (hb : RG B M ty rest s t w) (hn : oneOf? s t.at_ l.data.toList = none) :
    Calls Tryd.prog 82 #[.pointer (some ⟨B, 0, none⟩), .string l] w fun e w' => e = .returned (.tuple #[.int .u8 0, .bool false]) ∧ RG B M ty rest s t w' ∧ Ex B w w' := by
  have HE : Put (∀ n, Calls Tryd.prog 51 #[.pointer (some ⟨B, 0, none⟩)] (w.drewN n) fun e w' => e = .returned (.bool (decide (t.at_ = s.size))) ∧ ∃ m, w' = (w.drewN n).drewN m) := ⟨fun n => atEnd_q hat (hb.drewN n)⟩
  have d0 := hb.c0
  have d1 := hb.c1
  have HB : Put (RG B M ty rest s t w) := ⟨hb⟩
  by_cases h : t.at_ = s.size
  · rw [decide_eq_true h] at HE
    clear hn hb hat
    rw [h] at d1
    go_enter Tryd.func82, Tryd.ntmps82
    go_wp2
    go_quiet ((go_at_call 51; exact Calls.quiet_of (HE.out _)))
    go_wp2
    go_ret2
    exact ⟨rfl, HB.out.drewN _, (Ex.refl _ _).drewN _⟩
  · rw [decide_eq_false h] at HE
    have hlt : t.at_ < s.size := by omega
    have i1 : (t.at_ : Int) < (s.size : Int) := by omega
    have i0 : (0 : Int) ≤ (t.at_ : Int) := by omega
    have hm : s[t.at_] ∉ l.data.toList := by
      unfold oneOf? at hn
      rw [dif_pos hlt] at hn
      split at hn
      · cases hn
      · assumption
    have hi := indexByte_mem.2 hm
    have HI : Put (∀ w, Calls Tryd.prog 91 #[.string l, .int .u8 (s[t.at_].toNat : Nat)] w fun e w' => e = .returned (.int .i64 (indexByte l.data.toList s[t.at_])) ∧ w' = w) := ⟨fun w => by
      have := IndexByte_any l ((s[t.at_].toNat : Nat) : Int) w
      simpa using this⟩
    generalize indexByte l.data.toList s[t.at_] = ix at *
    clear hn hm hat hb
    generalize t.at_ = p at *
    go_enter Tryd.func82, Tryd.ntmps82
    go_wp2
    go_quiet (first | (go_at_call 51; exact Calls.quiet_of (HE.out _)) | (go_at_call 91; exact Calls.quiet_of_same (HI.out _)))
    go_wp2
    go_ret2
    exact ⟨rfl, HB.out.drewN _, (Ex.refl _ _).drewN _⟩
set_option maxRecDepth 100000 in
set_option maxHeartbeats 1600000 in
theorem oneOf_yes (l : ByteArray) (k : Nat) (hs : s.size ≤ 120) (hb : RG B M ty rest s t w) (hn : oneOf? s t.at_ l.data.toList = some k) :
    Calls Tryd.prog 82 #[.pointer (some ⟨B, 0, none⟩), .string l] w fun e w' => e = .returned (.tuple #[.int .u8 k, .bool true]) ∧ RG B M ty rest s t.adv w' ∧ Ex B w w' := by
  have hlt : t.at_ < s.size := by
    unfold oneOf? at hn
    split at hn
    · assumption
    · cases hn
  have hm : s[t.at_] ∈ l.data.toList ∧ s[t.at_].toNat = k := by
    unfold oneOf? at hn
    rw [dif_pos hlt] at hn
    split at hn
    · next h => simp at hn; exact ⟨h, hn⟩
    · cases hn
  have HE : Put (∀ n, Calls Tryd.prog 51 #[.pointer (some ⟨B, 0, none⟩)] (w.drewN n) fun e w' => e = .returned (.bool (decide (t.at_ = s.size))) ∧ ∃ m, w' = (w.drewN n).drewN m) := ⟨fun n => atEnd_q (by omega) (hb.drewN n)⟩
  rw [decide_eq_false (by omega)] at HE
  have d0 := hb.c0
  have d1 := hb.c1
  have f1 := hb.free 1
  have HB : Put (RG B M ty rest s t.adv (w.setCell ⟨B, 1, none⟩ (.int .i64 ((t.at_ + 1 : Nat) : Int)))) := ⟨hb.set1 (t.at_ + 1)⟩
  have i1 : (t.at_ : Int) < (s.size : Int) := by omega
  have i0 : (0 : Int) ≤ (t.at_ : Int) := by omega
  have hi : ¬ indexByte l.data.toList s[t.at_] < 0 := fun h => indexByte_mem.1 h hm.1
  have HI : Put (∀ w, Calls Tryd.prog 91 #[.string l, .int .u8 (s[t.at_].toNat : Nat)] w fun e w' => e = .returned (.int .i64 (indexByte l.data.toList s[t.at_])) ∧ w' = w) := ⟨fun w => by
    have := IndexByte_any l ((s[t.at_].toNat : Nat) : Int) w
    simpa using this⟩
  generalize indexByte l.data.toList s[t.at_] = ix at *
  have HK : Put (s[t.at_].toNat = k) := ⟨hm.2⟩
  clear hn hm hb
  generalize t.at_ = p at *
  have j1 : (p : Int) + 1 - 1 = (p : Int) := by omega
  go_enter Tryd.func82, Tryd.ntmps82
  go_wp2
  go_quiet (first | (go_at_call 51; exact Calls.quiet_of (HE.out _)) | (go_at_call 91; exact Calls.quiet_of_same (HI.out _)))
  go_wp2
  go_quiet (fail)
  go_wp2
  go_ret2
  refine ⟨?_, ?_, ?_⟩
  · rw [← HK.out]; rfl
  · exact HB.out.move rfl rfl
  · exact ((((Ex.refl B w).drewN _).setCell (.inl rfl) _).drewN _)
end
end Go.Proofs.YtgoebckimmofoaaDoor

/- The reader of models and its machine, in two blocks; what its rows mean. Our own text. -/
namespace Go.Proofs.YtgoebckimmofoaaDoor
open Go.RowKit Go.Lib

theorem blame_same (t : T) (f : Nat) : (t.blame f).at_ = t.at_ ∧ (t.blame f).n = t.n ∧ (t.blame f).nr = t.nr ∧ (t.blame f).chd = t.chd := by
  unfold T.blame; split <;> exact ⟨rfl, rfl, rfl, rfl⟩
theorem named_same (t : T) (k : Nat) : (t.named k).at_ = t.at_ + 1 ∧ (t.named k).n = t.n ∧ (t.named k).nr = t.nr ∧ (t.named k).chd = t.chd := by
  unfold T.named; split
  · exact blame_same _ _
  · exact ⟨rfl, rfl, rfl, rfl⟩
theorem pTerm_same {s : ByteArray} {t t' : T} (h : pTerm s t = some t') : t'.at_ = t.at_ + 1 ∧ t'.n = t.n ∧ t'.nr = t.nr ∧ t'.chd = t.chd := by
  unfold pTerm at h; split at h
  · cases h; exact ⟨rfl, rfl, rfl, rfl⟩
  · split at h
    · cases h; exact named_same _ _
    · cases h
theorem pTerm_lt {s : ByteArray} {t t' : T} (h : pTerm s t = some t') : t'.at_ ≤ s.size := by
  have := (pTerm_same h).1
  unfold pTerm at h; split at h
  · next e => have := num_lt e; omega
  · split at h
    · next e => have := num_lt e; omega
    · cases h
def pCmp (s : ByteArray) (t : T) : Option T :=
  match num? s t.at_ 61 0 0 with
  | some _ => some t.adv
  | none => match num? s t.at_ 35 0 0 with
    | some _ => some t.adv
    | none => match num? s t.at_ 60 0 0 with
      | some _ => some t.adv
      | none => none
theorem pCmp_same {s : ByteArray} {t t' : T} (h : pCmp s t = some t') : t' = t.adv ∧ t.at_ < s.size := by
  unfold pCmp at h; split at h
  · next e => cases h; exact ⟨rfl, num_lt e⟩
  · split at h
    · next e => cases h; exact ⟨rfl, num_lt e⟩
    · split at h
      · next e => cases h; exact ⟨rfl, num_lt e⟩
      · cases h
def signs : ByteArray := ⟨#[61, 35, 60]⟩
theorem num_is {s : ByteArray} {p z k : Nat} (h : num? s p z 0 0 = some k) : ∃ h : p < s.size, s[p].toNat = z := by
  obtain ⟨h1, h2, h3, _⟩ := num_some h
  exact ⟨h1, by omega⟩
theorem num_not {s : ByteArray} {p z : Nat} (h : num? s p z 0 0 = none) (hp : p < s.size) : s[p].toNat ≠ z := by
  rcases num_ways h (Nat.le_of_lt hp) with h | ⟨_, h⟩ <;> omega
theorem u8_is {a : UInt8} {n : Nat} (hn : n < 256) (h : a.toNat = n) : a = UInt8.ofNat n := by
  apply UInt8.toNat_inj.1
  simp [h]; omega
theorem pCmp_some {s : ByteArray} {t t' : T} (h : pCmp s t = some t') : ∃ k, oneOf? s t.at_ signs.data.toList = some k ∧ (k = 61 ∨ k = 35 ∨ k = 60) ∧ k = byteAt s t.at_ := by
  have key : ∀ z, z < 256 → (UInt8.ofNat z) ∈ signs.data.toList → ∀ k, num? s t.at_ z 0 0 = some k → oneOf? s t.at_ signs.data.toList = some z ∧ z = byteAt s t.at_ := by
    intro z hz hm k hk
    obtain ⟨hl, he⟩ := num_is hk
    refine ⟨?_, ?_⟩
    · unfold oneOf?
      rw [dif_pos hl, if_pos (by rw [u8_is hz he]; exact hm), he]
    · rw [num_byte hk, (show k = 0 by have := (num_le hk).2; omega)]; omega
  unfold pCmp at h; split at h
  · next k e => exact ⟨61, (key 61 (by omega) (by decide) k e).1, .inl rfl, (key 61 (by omega) (by decide) k e).2⟩
  · split at h
    · next k e => exact ⟨35, (key 35 (by omega) (by decide) k e).1, .inr (.inl rfl), (key 35 (by omega) (by decide) k e).2⟩
    · split at h
      · next k e => exact ⟨60, (key 60 (by omega) (by decide) k e).1, .inr (.inr rfl), (key 60 (by omega) (by decide) k e).2⟩
      · cases h
theorem pCmp_none {s : ByteArray} {t : T} (h : pCmp s t = none) : oneOf? s t.at_ signs.data.toList = none := by
  unfold pCmp at h
  split at h
  · cases h
  · next e1 =>
    split at h
    · cases h
    · next e2 =>
      split at h
      · cases h
      · next e3 =>
        unfold oneOf?
        by_cases hl : t.at_ < s.size
        · rw [dif_pos hl, if_neg]
          intro hm
          have h1 := num_not e1 hl
          have h2 := num_not e2 hl
          have h3 := num_not e3 hl
          have : s[t.at_] = 61 ∨ s[t.at_] = 35 ∨ s[t.at_] = 60 := by simpa [signs] using hm
          rcases this with h | h | h
          · exact h1 (by rw [h]; rfl)
          · exact h2 (by rw [h]; rfl)
          · exact h3 (by rw [h]; rfl)
        · rw [dif_neg hl]
def pCond (s : ByteArray) (t : T) : Bool × T :=
  match pTerm s t with
  | none => (false, t)
  | some t1 => match pCmp s t1 with
    | none => (false, t1)
    | some t2 => match pTerm s t2 with
      | none => (false, t2)
      | some t3 => (true, t3)
theorem pCond_same {s : ByteArray} {t t' : T} {b : Bool} (h : pCond s t = (b, t')) (ht : t.at_ ≤ s.size) : t.at_ ≤ t'.at_ ∧ t'.n = t.n ∧ t'.nr = t.nr ∧ t'.chd = t.chd ∧ t'.at_ ≤ s.size ∧ (b = true → t.at_ < t'.at_) := by
  unfold pCond at h
  split at h
  · cases h; exact ⟨Nat.le_refl _, rfl, rfl, rfl, ht, fun h => by cases h⟩
  · next t1 e1 =>
    have s1 := pTerm_same e1
    have l1 := pTerm_lt e1
    split at h
    · cases h; exact ⟨by omega, s1.2.1, s1.2.2.1, s1.2.2.2, l1, fun h => by cases h⟩
    · next t2 e2 =>
      obtain ⟨rfl, l2⟩ := pCmp_same e2
      have n2 : t1.adv.at_ = t1.at_ + 1 := rfl
      split at h
      · cases h; exact ⟨by omega, s1.2.1, s1.2.2.1, s1.2.2.2, by omega, fun h => by cases h⟩
      · next t3 e3 =>
        have s3 := pTerm_same e3
        have l3 := pTerm_lt e3
        cases h
        exact ⟨by omega, s3.2.1.trans s1.2.1, s3.2.2.1.trans s1.2.2.1, s3.2.2.2.trans s1.2.2.2, l3, fun _ => by omega⟩
/-- The condition that stands at a place. -/
def cdOf (s : ByteArray) (p : Nat) : Tm × Tm := (tmOf s p, tmOf s (p + 2))
theorem tmOf_at {s : ByteArray} {t t' : T} (h : pTerm s t = some t') : (tmOf s t.at_).2.2 = (t.at_ : Int) := by
  unfold pTerm at h
  cases h1 : num? s t.at_ 48 0 3 with
  | some k => unfold tmOf; rw [num_disj h1, h1]
  | none =>
    cases h2 : num? s t.at_ 97 0 2 with
    | some k => unfold tmOf; rw [h2]
    | none => simp [h1, h2] at h

section
variable {B M : Nat} {ty : TypeId} {rest : List Value} {s : ByteArray} {t : T} {w : World}
set_option maxRecDepth 100000 in
set_option maxHeartbeats 1600000 in
theorem cond_no {t' : T} (hs : s.size ≤ 120) (hat : t.at_ ≤ s.size) (hb : RG B M ty rest s t w) (hp : pCond s t = (false, t')) :
    Calls Tryd.prog 71 #[.pointer (some ⟨B, 0, none⟩)] w fun e w' => e = .returned (.tuple #[.nilFunc, .bool false]) ∧ RG B M ty rest s t' w' ∧ Ex B w w' := by
  unfold pCond at hp
  cases h1 : pTerm s t with
  | none =>
    simp [h1] at hp; subst hp
    go_enter Tryd.func71, Tryd.ntmps71
    go_wp2_with fail
    refine (term_no hs hat hb h1).mono ?_; rintro e w1 ⟨rfl, hb1, hx1⟩
    go_wp2
    go_ret2
    exact ⟨rfl, hb1, hx1⟩
  | some t1 =>
    have l1 := pTerm_lt h1
    cases h2 : pCmp s t1 with
    | none =>
      simp [h1, h2] at hp; subst hp
      go_enter Tryd.func71, Tryd.ntmps71
      go_wp2_with fail
      refine (term_yes hs hat hb h1).mono ?_; rintro e w1 ⟨⟨f1, a1, rfl, hf1⟩, hb1, hx1⟩
      go_wp2_with fail
      refine (oneOf_no signs l1 hb1 (pCmp_none h2)).mono ?_; rintro e w2 ⟨rfl, hb2, hx2⟩
      go_wp2
      go_ret2
      exact ⟨rfl, hb2, hx1.trans hx2⟩
    | some t2 =>
      obtain ⟨k, hk, hkk, hby⟩ := pCmp_some h2
      obtain ⟨rfl, l2⟩ := pCmp_same h2
      cases h3 : pTerm s t1.adv with
      | none =>
        simp [h1, h2, h3] at hp; subst hp
        clear hkk hby
        go_enter Tryd.func71, Tryd.ntmps71
        go_wp2_with fail
        refine (term_yes hs hat hb h1).mono ?_; rintro e w1 ⟨⟨f1, a1, rfl, hf1⟩, hb1, hx1⟩
        go_wp2_with fail
        refine (oneOf_yes signs k hs hb1 hk).mono ?_; rintro e w2 ⟨rfl, hb2, hx2⟩
        go_wp2_with fail
        refine (term_no (t := t1.adv) hs l2 hb2 h3).mono ?_; rintro e w3 ⟨rfl, hb3, hx3⟩
        go_wp2
        go_ret2
        exact ⟨rfl, hb3, (hx1.trans hx2).trans hx3⟩
      | some t3 => simp [h1, h2, h3] at hp
set_option maxRecDepth 100000 in
set_option maxHeartbeats 1600000 in
theorem cond_yes {t' : T} (hty : soft ty = true) (hs : s.size ≤ 120) (hat : t.at_ ≤ s.size) (hb : RG B M ty rest s t w) (hp : pCond s t = (true, t')) :
    Calls Tryd.prog 71 #[.pointer (some ⟨B, 0, none⟩)] w fun e w' => (∃ f a, e = .returned (.tuple #[.func f #[] a, .bool true]) ∧ FnK 0 w' (.func f #[] a) (fun y => .bool (cdP s (cdOf s t.at_) y))) ∧ RG B M ty rest s t' w' ∧ Ex B w w' := by
  unfold pCond at hp
  cases h1 : pTerm s t with
  | none => simp [h1] at hp
  | some t1 =>
    have l1 := pTerm_lt h1
    have s1 := (pTerm_same h1).1
    have a1' := tmOf_at h1
    cases h2 : pCmp s t1 with
    | none => simp [h1, h2] at hp
    | some t2 =>
      obtain ⟨k, hk, hkk, hby⟩ := pCmp_some h2
      obtain ⟨rfl, l2⟩ := pCmp_same h2
      cases h3 : pTerm s t1.adv with
      | none => simp [h1, h2, h3] at hp
      | some t3 =>
        simp [h1, h2, h3] at hp; subst hp
        have HC : Put (∀ y, cdP s (cdOf s t.at_) y = cmpP k (tmV (tmOf s t.at_) y) (tmV (tmOf s t1.adv.at_) y)) := ⟨fun y => by
          unfold cdP cdOf
          have e2 : t1.adv.at_ = t.at_ + 2 := by show t1.at_ + 1 = _; omega
          simp only [a1', e2, hby, s1, Int.toNat_natCast]⟩
        clear hby a1' s1
        go_enter Tryd.func71, Tryd.ntmps71
        go_wp2_with fail
        refine (term_yes hs hat hb h1).mono ?_; rintro e w1 ⟨⟨f1, a1, rfl, hf1⟩, hb1, hx1⟩
        go_wp2_with fail
        refine (oneOf_yes signs k hs hb1 hk).mono ?_; rintro e w2 ⟨rfl, hb2, hx2⟩
        go_wp2_with fail
        refine (term_yes (t := t1.adv) hs l2 hb2 h3).mono ?_; rintro e w3 ⟨⟨f3, a3, rfl, hf3⟩, hb3, hx3⟩
        have hf1' := hf1.kp ((Kp.of_ex hx2 hb1.blk hty).trans (Kp.of_ex hx3 hb2.blk hty))
        have HH : Put (_ ∧ _ ∧ _) := ⟨hf1', hf3, (hx1.trans hx2).trans hx3⟩
        have HB : Put (_) := ⟨hb3⟩
        clear hf1 hf1' hf3 hx1 hx2 hx3 hb1 hb2 hb3 h1 h2 h3 hk
        go_wp2_with fail
        refine (compare_any k hkk _ _ _ _ _ _ w3 HH.out.1 HH.out.2.1).mono ?_; rintro e w4 ⟨⟨f4, a4, rfl, hf4⟩, hb4⟩
        have HF : Put (FnK 0 w4 (.func f4 #[] a4) (fun y => .bool (cdP s (cdOf s t.at_) y))) := ⟨by
          have : (fun y => Value.bool (cdP s (cdOf s t.at_) y)) = (fun y => Value.bool (cmpP k (tmV (tmOf s t.at_) y) (tmV (tmOf s t1.adv.at_) y))) := by funext y; rw [HC.out]
          rw [this]; exact hf4⟩
        have HX : Put (Ex B w w4) := ⟨HH.out.2.2.trans (Ex.of_below hb4)⟩
        have HG : Put (RG B M ty rest s t3 w4) := ⟨HB.out.move (hb4.block _ HB.out.lt) (hb4.block _ (Nat.lt_trans HB.out.lo HB.out.lt))⟩
        clear hf4 hb4 HB HH HC
        go_wp2
        go_ret2
        exact ⟨⟨_, _, rfl, HF.out⟩, HG.out, HX.out⟩
end
end Go.Proofs.YtgoebckimmofoaaDoor

/- All blocks but two. Our own text. -/
namespace Go.Proofs.YtgoebckimmofoaaDoor
open Go.RowKit Go.Lib

/-- All blocks but B and M are as they were; new ones may have come. -/
structure Ex2 (B M : Nat) (w w' : World) : Prop where
  os : w'.os = w.os
  tape : w'.tape = w.tape
  output : w'.output = w.output
  size : w.heap.size ≤ w'.heap.size
  block : ∀ k, k < w.heap.size → k ≠ B → k ≠ M → w'.heap[k]? = w.heap[k]?
theorem Ex.two {B M : Nat} {w w' : World} (h : Ex B w w') : Ex2 B M w w' := ⟨h.os, h.tape, h.output, h.size, fun k hk h1 _ => h.block k hk h1⟩
theorem Ex2.trans {B M : Nat} {a b c : World} (h : Ex2 B M a b) (k : Ex2 B M b c) : Ex2 B M a c :=
  ⟨k.os.trans h.os, k.tape.trans h.tape, k.output.trans h.output, Nat.le_trans h.size k.size, fun i hi hB hM => (k.block i (Nat.lt_of_lt_of_le hi h.size) hB hM).trans (h.block i hi hB hM)⟩
theorem Ex2.drew {B M : Nat} {a b : World} (h : Ex2 B M a b) : Ex2 B M a b.drew := ⟨h.os, h.tape, h.output, h.size, h.block⟩
theorem Ex2.setCell {B M : Nat} {a b : World} (h : Ex2 B M a b) {p : Addr} (hp : p.block = B ∨ p.block = M ∨ a.heap.size ≤ p.block) (v : Value) : Ex2 B M a (b.setCell p v) :=
  ⟨h.os, h.tape, h.output, by simpa using h.size, fun k hk hB hM => by rw [heap_setCell_other _ _ _ _ (by omega)]; exact h.block k hk hB hM⟩
theorem Ex2.below {B M : Nat} {w w' : World} (h : Ex2 B M w w') (hM : M < B) (hs : M ≤ w.heap.size) : Below M w w' :=
  ⟨h.os, h.tape, h.output, h.size, fun k hk => h.block k (by omega) (by omega) (by omega)⟩
theorem Ex2.ownsRow {B M base e size n : Nat} {v : Value} {xs : List Value} {w w' : World} (h : Ex2 B M w w') (hB : B < base) (hM : M < base) (ho : w.ownsRow base e size v n xs) : w'.ownsRow base e size v n xs := by
  refine ⟨ho.1, ?_⟩
  rcases ho.2 with hn | ⟨g, cap, cur, rfl, hb, hg, r⟩
  · exact .inl hn
  · exact .inr ⟨g, cap, cur, rfl, hb, by rw [h.block g (lt_of_block hg) (by omega) (by omega)]; exact hg, r⟩
end Go.Proofs.YtgoebckimmofoaaDoor
