/- Conditions as they are read: the signs, what they make. Our own text. -/
import Derived.Test.YtkbmolodljenjaaDoorKBase
import Derived.MapKept
import Derived.Lib.Bytealg
import Derived.Deep.RegionLaw
import Derived.Deep.RegionHeld3
namespace Go.Proofs.YtkbmolodljenjaaDoor
open Go.RowKit Go.Lib

/-! A map from bytes to function values. -/
theorem run_put (r : Nat) (es : Array MapEntry) (clock k : Nat) (v : Value) (W : World) (hb : W.heap[r]? = some (.map es clock)) (hk : ∀ x ∈ es.toList, MapKept.IsKey (.int .u8) x.key ∧ x.key ≠ .int .u8 k) :
    (Instr.mapUpdate 171 (.map (some r)) (.int .u8 k) v).run Tryd.prog W = .ok () { W with heap := W.heap.setIfInBounds r (.map (es.push { key := .int .u8 k, val := v, born := clock }) (clock + 1)) } := by
  have hk0 : MapKept.IsKey (.int .u8) (.int .u8 k) := by trivial
  rcases MapKept.findNow_spec hk0 es.toList 0 (fun x hx => (hk x hx).1) with ⟨h1, h2⟩ | ⟨j, e, h1, h2, h3⟩
  · simp [Instr.mapUpdate, run_underlying Tryd.underlying171, MapKept.run_getObj_map hb, MapKept.run_checkKey Tryd.underlying5 hk0, MapKept.run_findKey Tryd.underlying5 h1, MapKept.run_setObj_map _ hb, Result.andThen]
  · exact absurd h3 (hk e (List.mem_of_getElem? (by simpa using h2))).2
theorem run_get (r : Nat) (es : Array MapEntry) (clock k : Nat) (v : Value) (W : World) (hb : W.heap[r]? = some (.map es clock)) (hk : ∀ x ∈ es.toList, MapKept.IsKey (.int .u8) x.key ∧ (x.key = .int .u8 k → x.val = v)) (hin : ∃ x ∈ es.toList, x.key = .int .u8 k) :
    (Instr.lookup 171 (.map (some r)) (.int .u8 k) false).run Tryd.prog W = .ok v W := by
  have hk0 : MapKept.IsKey (.int .u8) (.int .u8 k) := by trivial
  rcases MapKept.findNow_spec hk0 es.toList 0 (fun x hx => (hk x hx).1) with ⟨h1, h2⟩ | ⟨j, e, h1, h2, h3⟩
  · obtain ⟨x, hx, he⟩ := hin
    exact absurd he (h2 x hx)
  · have hv := (hk e (List.mem_of_getElem? (by simpa using h2))).2 h3
    rw [hv] at h1
    simp [Instr.lookup, run_underlying Tryd.underlying171, MapKept.run_getObj_map hb, MapKept.run_checkKey Tryd.underlying5 hk0, MapKept.run_findKey Tryd.underlying5 h1, Result.andThen]
/-- The entries of a list of signs and functions, the last one put in first of the list. -/
def entsOf : List (Nat × Nat) → List MapEntry
  | [] => []
  | e :: l => entsOf l ++ [{ key := .int .u8 e.1, val := .func (.func e.2) #[] #[], born := l.length }]
def MapAt (W : World) (r : Nat) (l : List (Nat × Nat)) : Prop := W.heap[r]? = some (.map (entsOf l).toArray l.length)
theorem entsOf_mem {x : MapEntry} : ∀ {l : List (Nat × Nat)}, x ∈ entsOf l → ∃ e ∈ l, x.key = .int .u8 e.1 ∧ x.val = .func (.func e.2) #[] #[]
  | e :: l, h => by
    unfold entsOf at h
    rcases List.mem_append.1 h with h | h
    · obtain ⟨e', h1, h2⟩ := entsOf_mem h
      exact ⟨e', by simp [h1], h2⟩
    · simp at h; subst h; exact ⟨e, by simp, rfl, rfl⟩
theorem mem_entsOf {e : Nat × Nat} : ∀ {l : List (Nat × Nat)}, e ∈ l → ∃ x ∈ entsOf l, x.key = .int .u8 e.1
  | a :: l, h => by
    rcases List.mem_cons.1 h with rfl | h
    · exact ⟨{ key := .int .u8 e.1, val := .func (.func e.2) #[] #[], born := l.length }, by unfold entsOf; simp, rfl⟩
    · obtain ⟨x, h1, h2⟩ := mem_entsOf h
      exact ⟨x, by unfold entsOf; simp [h1], h2⟩
theorem put_map {W : World} {r : Nat} {l : List (Nat × Nat)} (h : MapAt W r l) (k f : Nat) (hk : ∀ e ∈ l, e.1 ≠ k) :
    ∃ W', (Instr.mapUpdate 171 (.map (some r)) (.int .u8 k) (.func (.func f) #[] #[])).run Tryd.prog W = .ok () W' ∧ MapAt W' r ((k, f) :: l) ∧ Ex r W W' := by
  refine ⟨_, run_put r _ _ k _ W h ?_, ?_, ?_⟩
  · intro x hx
    obtain ⟨e, he, h1, h2⟩ := entsOf_mem (l := l) (by simpa using hx)
    rw [h1]
    refine ⟨by trivial, ?_⟩
    intro h3
    simp at h3
    exact hk e he (by omega)
  · unfold MapAt
    have := (MapKept.heap_set (o' := .map ((entsOf l).toArray.push { key := .int .u8 k, val := .func (.func f) #[] #[], born := l.length }) (l.length + 1)) h).1
    simpa [entsOf] using this
  · exact ⟨rfl, rfl, rfl, by simp, fun i _ hi => (MapKept.heap_set h).2 i hi⟩
theorem get_map {W : World} {r : Nat} {l : List (Nat × Nat)} (h : MapAt W r l) (k f : Nat) (hin : (k, f) ∈ l) (hu : ∀ e ∈ l, e.1 = k → e.2 = f) :
    (Instr.lookup 171 (.map (some r)) (.int .u8 k) false).run Tryd.prog W = .ok (.func (.func f) #[] #[]) W := by
  refine run_get r _ _ k _ W h ?_ ?_
  · intro x hx
    obtain ⟨e, he, h1, h2⟩ := entsOf_mem (l := l) (by simpa using hx)
    rw [h1]
    refine ⟨by trivial, ?_⟩
    intro h3
    simp at h3
    rw [h2, hu e he (by omega)]
  · obtain ⟨x, h1, h2⟩ := mem_entsOf hin
    exact ⟨x, by simpa using h1, h2⟩

theorem equals_any (a b : Value) (ha : a.oneCell' = true) (hb : b.oneCell' = true) (w : World) :
    Calls Tryd.prog 100 #[a, b] w fun e w' => e = .returned (.func (.func 104) #[] #[.pointer (some ⟨w.heap.size, 0, none⟩), .pointer (some ⟨w.heap.size + 1, 0, none⟩)]) ∧ w' = (w.alloc (.cells #[a] 160)).alloc (.cells #[b] 160) := by
  have hmf : ∀ (fn : Fn) (first cap : Array Value) (w : World), (Instr.makeFunc fn first cap).run Tryd.prog w = .ok (.func fn first cap) w := fun _ _ _ _ => rfl
  go_enter Tryd.func100, Tryd.ntmps100
  go_wp2
  go_ret
  exact ⟨rfl, rfl⟩
theorem differs_any (a b : Value) (ha : a.oneCell' = true) (hb : b.oneCell' = true) (w : World) :
    Calls Tryd.prog 101 #[a, b] w fun e w' => e = .returned (.func (.func 105) #[] #[.pointer (some ⟨w.heap.size, 0, none⟩), .pointer (some ⟨w.heap.size + 1, 0, none⟩)]) ∧ w' = (w.alloc (.cells #[a] 160)).alloc (.cells #[b] 160) := by
  have hmf : ∀ (fn : Fn) (first cap : Array Value) (w : World), (Instr.makeFunc fn first cap).run Tryd.prog w = .ok (.func fn first cap) w := fun _ _ _ _ => rfl
  go_enter Tryd.func101, Tryd.ntmps101
  go_wp2
  go_ret
  exact ⟨rfl, rfl⟩
theorem isBelow_any (a b : Value) (ha : a.oneCell' = true) (hb : b.oneCell' = true) (w : World) :
    Calls Tryd.prog 102 #[a, b] w fun e w' => e = .returned (.func (.func 106) #[] #[.pointer (some ⟨w.heap.size, 0, none⟩), .pointer (some ⟨w.heap.size + 1, 0, none⟩)]) ∧ w' = (w.alloc (.cells #[a] 160)).alloc (.cells #[b] 160) := by
  have hmf : ∀ (fn : Fn) (first cap : Array Value) (w : World), (Instr.makeFunc fn first cap).run Tryd.prog w = .ok (.func fn first cap) w := fun _ _ _ _ => rfl
  go_enter Tryd.func102, Tryd.ntmps102
  go_wp2
  go_ret
  exact ⟨rfl, rfl⟩

set_option maxRecDepth 100000 in
set_option maxHeartbeats 1600000 in
theorem equals1_any (bl br y : Nat) (hy : y < 64) (vl vr : Value) (L R : Nat → Nat) (w W : World) (hW : Kp 0 w W) (h0 : 0 < W.heap.size) (hT : Tab W) (hl : FnK 0 w vl (fun x => .int .i64 (L x : Nat))) (hr : FnK 0 w vr (fun x => .int .i64 (R x : Nat)))
    (b2 : W.heap[bl]? = some (.cells #[vl] 160 (0, 0))) (b3 : W.heap[br]? = some (.cells #[vr] 160 (0, 0))) :
    Calls Tryd.prog 104 #[.int .u8 (y : Nat), .pointer (some ⟨bl, 0, none⟩), .pointer (some ⟨br, 0, none⟩)] W fun e W' => e = .returned (.bool (cmpP 61 (L y) (R y))) ∧ Below W.heap.size W W' := by
  obtain ⟨fl, cl, rfl, el, kl⟩ := hl
  obtain ⟨fr, cr, rfl, er, kr⟩ := hr
  have c2 := box_cell b2
  have c3 := box_cell b3
  have hL : ∀ W2, Below W.heap.size W W2 → Calls Tryd.prog fl (#[.int .u8 (y : Nat)] ++ cl) W2 fun e W' => e = .returned (.int .i64 ((L y : Nat) : Int)) ∧ Below W2.heap.size W2 W' := fun W2 h2 => kl W2 (hW.trans (Kp.of_below h2)) (Nat.lt_of_lt_of_le h0 h2.size) (hT.below h2 h0) y hy
  have hR : ∀ W2, Below W.heap.size W W2 → Calls Tryd.prog fr (#[.int .u8 (y : Nat)] ++ cr) W2 fun e W' => e = .returned (.int .i64 ((R y : Nat) : Int)) ∧ Below W2.heap.size W2 W' := fun W2 h2 => kr W2 (hW.trans (Kp.of_below h2)) (Nat.lt_of_lt_of_le h0 h2.size) (hT.below h2 h0) y hy
  have l2 := lt_of_block b2
  have l3 := lt_of_block b3
  generalize L y = a at *
  generalize R y = b at *
  have hC : cmpP 61 a b = ((a : Int) == (b : Int)) := (cmpP_same (op := 61) rfl rfl rfl).symm
  have HC : Put (_ = _) := ⟨hC⟩
  clear b2 b3 kl kr hW hC
  have hdr : Below W.heap.size W W.drew := ⟨rfl, rfl, rfl, Nat.le_refl _, fun _ _ => rfl⟩
  have HL : Put (_) := ⟨hL⟩
  have HR : Put (_) := ⟨hR⟩
  clear hL hR hT
  rw [HC.out]
  go_enter Tryd.func104, Tryd.ntmps104
  go_wp2_with fail
  go_region_held3 (fun w' => ∀ b o, b < W.heap.size → w'.cell? ⟨b, o, none⟩ = W.cell? ⟨b, o, none⟩)
    (first
      | exact fun b o hb => (hbR'.cell (p := ⟨b, o, none⟩) hb)
      | exact fun b o hb => (hbL'.cell (p := ⟨b, o, none⟩) hb)
      | exact fun _ _ _ => rfl
      | go_keep)
    (first
      | (with_reducible refine (HR.out wL hbL').mono ?_; rintro e wR ⟨rfl, hbR⟩; have hbR' : Below W.heap.size W wR := hbL'.trans (hbR.mono hbL'.size))
      | (refine (HL.out W.drew hdr).mono ?_; rintro e wL ⟨rfl, hbL⟩; have hbL' : Below W.heap.size W wL := hdr.trans hbL))
  all_goals
    go_wp2
    go_ret
    exact ⟨rfl, hbR'⟩
set_option maxRecDepth 100000 in
set_option maxHeartbeats 1600000 in
theorem differs1_any (bl br y : Nat) (hy : y < 64) (vl vr : Value) (L R : Nat → Nat) (w W : World) (hW : Kp 0 w W) (h0 : 0 < W.heap.size) (hT : Tab W) (hl : FnK 0 w vl (fun x => .int .i64 (L x : Nat))) (hr : FnK 0 w vr (fun x => .int .i64 (R x : Nat)))
    (b2 : W.heap[bl]? = some (.cells #[vl] 160 (0, 0))) (b3 : W.heap[br]? = some (.cells #[vr] 160 (0, 0))) :
    Calls Tryd.prog 105 #[.int .u8 (y : Nat), .pointer (some ⟨bl, 0, none⟩), .pointer (some ⟨br, 0, none⟩)] W fun e W' => e = .returned (.bool (cmpP 35 (L y) (R y))) ∧ Below W.heap.size W W' := by
  obtain ⟨fl, cl, rfl, el, kl⟩ := hl
  obtain ⟨fr, cr, rfl, er, kr⟩ := hr
  have c2 := box_cell b2
  have c3 := box_cell b3
  have hL : ∀ W2, Below W.heap.size W W2 → Calls Tryd.prog fl (#[.int .u8 (y : Nat)] ++ cl) W2 fun e W' => e = .returned (.int .i64 ((L y : Nat) : Int)) ∧ Below W2.heap.size W2 W' := fun W2 h2 => kl W2 (hW.trans (Kp.of_below h2)) (Nat.lt_of_lt_of_le h0 h2.size) (hT.below h2 h0) y hy
  have hR : ∀ W2, Below W.heap.size W W2 → Calls Tryd.prog fr (#[.int .u8 (y : Nat)] ++ cr) W2 fun e W' => e = .returned (.int .i64 ((R y : Nat) : Int)) ∧ Below W2.heap.size W2 W' := fun W2 h2 => kr W2 (hW.trans (Kp.of_below h2)) (Nat.lt_of_lt_of_le h0 h2.size) (hT.below h2 h0) y hy
  have l2 := lt_of_block b2
  have l3 := lt_of_block b3
  generalize L y = a at *
  generalize R y = b at *
  have hC : cmpP 35 a b = ((a : Int) != (b : Int)) := (cmpP_same (op := 35) rfl rfl rfl).symm
  have HC : Put (_ = _) := ⟨hC⟩
  clear b2 b3 kl kr hW hC
  have hdr : Below W.heap.size W W.drew := ⟨rfl, rfl, rfl, Nat.le_refl _, fun _ _ => rfl⟩
  have HL : Put (_) := ⟨hL⟩
  have HR : Put (_) := ⟨hR⟩
  clear hL hR hT
  rw [HC.out]
  go_enter Tryd.func105, Tryd.ntmps105
  go_wp2_with fail
  go_region_held3 (fun w' => ∀ b o, b < W.heap.size → w'.cell? ⟨b, o, none⟩ = W.cell? ⟨b, o, none⟩)
    (first
      | exact fun b o hb => (hbR'.cell (p := ⟨b, o, none⟩) hb)
      | exact fun b o hb => (hbL'.cell (p := ⟨b, o, none⟩) hb)
      | exact fun _ _ _ => rfl
      | go_keep)
    (first
      | (with_reducible refine (HR.out wL hbL').mono ?_; rintro e wR ⟨rfl, hbR⟩; have hbR' : Below W.heap.size W wR := hbL'.trans (hbR.mono hbL'.size))
      | (refine (HL.out W.drew hdr).mono ?_; rintro e wL ⟨rfl, hbL⟩; have hbL' : Below W.heap.size W wL := hdr.trans hbL))
  all_goals
    go_wp2
    go_ret
    exact ⟨rfl, hbR'⟩
set_option maxRecDepth 100000 in
set_option maxHeartbeats 1600000 in
theorem isBelow1_any (bl br y : Nat) (hy : y < 64) (vl vr : Value) (L R : Nat → Nat) (w W : World) (hW : Kp 0 w W) (h0 : 0 < W.heap.size) (hT : Tab W) (hl : FnK 0 w vl (fun x => .int .i64 (L x : Nat))) (hr : FnK 0 w vr (fun x => .int .i64 (R x : Nat)))
    (b2 : W.heap[bl]? = some (.cells #[vl] 160 (0, 0))) (b3 : W.heap[br]? = some (.cells #[vr] 160 (0, 0))) :
    Calls Tryd.prog 106 #[.int .u8 (y : Nat), .pointer (some ⟨bl, 0, none⟩), .pointer (some ⟨br, 0, none⟩)] W fun e W' => e = .returned (.bool (cmpP 60 (L y) (R y))) ∧ Below W.heap.size W W' := by
  obtain ⟨fl, cl, rfl, el, kl⟩ := hl
  obtain ⟨fr, cr, rfl, er, kr⟩ := hr
  have c2 := box_cell b2
  have c3 := box_cell b3
  have hL : ∀ W2, Below W.heap.size W W2 → Calls Tryd.prog fl (#[.int .u8 (y : Nat)] ++ cl) W2 fun e W' => e = .returned (.int .i64 ((L y : Nat) : Int)) ∧ Below W2.heap.size W2 W' := fun W2 h2 => kl W2 (hW.trans (Kp.of_below h2)) (Nat.lt_of_lt_of_le h0 h2.size) (hT.below h2 h0) y hy
  have hR : ∀ W2, Below W.heap.size W W2 → Calls Tryd.prog fr (#[.int .u8 (y : Nat)] ++ cr) W2 fun e W' => e = .returned (.int .i64 ((R y : Nat) : Int)) ∧ Below W2.heap.size W2 W' := fun W2 h2 => kr W2 (hW.trans (Kp.of_below h2)) (Nat.lt_of_lt_of_le h0 h2.size) (hT.below h2 h0) y hy
  have l2 := lt_of_block b2
  have l3 := lt_of_block b3
  generalize L y = a at *
  generalize R y = b at *
  have hC : cmpP 60 a b = decide ((a : Int) < (b : Int)) := (cmpP_same (op := 60) rfl rfl rfl).symm
  have HC : Put (_ = _) := ⟨hC⟩
  clear b2 b3 kl kr hW hC
  have hdr : Below W.heap.size W W.drew := ⟨rfl, rfl, rfl, Nat.le_refl _, fun _ _ => rfl⟩
  have HL : Put (_) := ⟨hL⟩
  have HR : Put (_) := ⟨hR⟩
  clear hL hR hT
  rw [HC.out]
  go_enter Tryd.func106, Tryd.ntmps106
  go_wp2_with fail
  go_region_held3 (fun w' => ∀ b o, b < W.heap.size → w'.cell? ⟨b, o, none⟩ = W.cell? ⟨b, o, none⟩)
    (first
      | exact fun b o hb => (hbR'.cell (p := ⟨b, o, none⟩) hb)
      | exact fun b o hb => (hbL'.cell (p := ⟨b, o, none⟩) hb)
      | exact fun _ _ _ => rfl
      | go_keep)
    (first
      | (with_reducible refine (HR.out wL hbL').mono ?_; rintro e wR ⟨rfl, hbR⟩; have hbR' : Below W.heap.size W wR := hbL'.trans (hbR.mono hbL'.size))
      | (refine (HL.out W.drew hdr).mono ?_; rintro e wL ⟨rfl, hbL⟩; have hbL' : Below W.heap.size W wL := hdr.trans hbL))
  all_goals
    go_wp2
    go_ret
    refine ⟨?_, hbR'⟩
    show Ending.returned (Value.bool (decide (a < b))) = Ending.returned (Value.bool (decide ((a : Int) < (b : Int))))
    congr 2
    rw [Bool.eq_iff_iff]; simp

set_option maxRecDepth 100000 in
set_option maxHeartbeats 1600000 in
theorem compare_any (k : Nat) (hk : k = 61 ∨ k = 35 ∨ k = 60) (fl fr : Fn) (cl cr : Array Value) (L R : Nat → Nat) (w : World) (hl : FnK 0 w (.func fl #[] cl) (fun x => .int .i64 (L x : Nat))) (hr : FnK 0 w (.func fr #[] cr) (fun x => .int .i64 (R x : Nat))) :
    Calls Tryd.prog 91 #[.int .u8 (k : Nat), .func fl #[] cl, .func fr #[] cr] w fun e w' => (∃ f c, e = .returned (.func f #[] c) ∧ FnK 0 w' (.func f #[] c) (fun x => .bool (cmpP k (L x) (R x)))) ∧ Below w.heap.size w w' := by
  have hmk : (Instr.makeMap 171 none).run Tryd.prog w = .ok (.map (some w.heap.size)) (w.alloc (.map #[] 0)) := by simp [Instr.makeMap, Result.andThen]
  have m0 : MapAt (w.alloc (.map #[] 0)) w.heap.size [] := heap_alloc_new w (.map #[] 0)
  obtain ⟨W1, r1, m1, x1⟩ := put_map m0 61 100 (by simp)
  change (Instr.mapUpdate 171 (.map (some w.heap.size)) (.int .u8 61) (.func (.func 100) #[] #[])).run Tryd.prog (w.alloc (.map #[] 0)) = .ok () W1 at r1
  obtain ⟨W2, r2, m2, x2⟩ := put_map m1 35 101 (by simp)
  change (Instr.mapUpdate 171 (.map (some w.heap.size)) (.int .u8 35) (.func (.func 101) #[] #[])).run Tryd.prog W1 = .ok () W2 at r2
  obtain ⟨W3, r3, m3, x3⟩ := put_map m2 60 102 (by simp)
  change (Instr.mapUpdate 171 (.map (some w.heap.size)) (.int .u8 60) (.func (.func 102) #[] #[])).run Tryd.prog W2 = .ok () W3 at r3
  have hB : Below w.heap.size w W3 := ((Below.refl _ w).alloc (Nat.le_refl _) _).trans (((x1.trans x2).trans x3).below (Nat.le_refl _) (by simp))
  have hl3 := hl.kp (Kp.of_below hB)
  have hr3 := hr.kp (Kp.of_below hB)
  have HB : Put (_) := ⟨hB⟩
  have HM : Put (_ ∧ _) := ⟨hl3, hr3⟩
  have hsz : w.heap.size ≤ W3.heap.size := hB.size
  clear m0 m1 m2 x1 x2 x3 hB hl hr hl3 hr3
  rcases hk with rfl | rfl | rfl
  · have g := get_map m3 61 100 (by simp) (by simp)
    change (Instr.lookup 171 (.map (some w.heap.size)) (.int .u8 61) false).run Tryd.prog W3 = .ok (.func (.func 100) #[] #[]) W3 at g
    show Calls Tryd.prog 91 #[.int .u8 61, .func fl #[] cl, .func fr #[] cr] w _
    have en := enters_of Tryd.func100 (by kernel_rfl) rfl
    clear m3
    go_enter Tryd.func91, Tryd.ntmps91
    go_wp2_with fail
    refine (equals_any (.func fl #[] cl) (.func fr #[] cr) rfl rfl W3).mono ?_
    rintro e w4 ⟨rfl, rfl⟩
    go_wp2
    go_ret
    refine ⟨⟨_, _, rfl, 104, _, rfl, enters_of Tryd.func104 (by kernel_rfl) rfl, fun W hW h0 hT y hy => ?_⟩, (HB.out.alloc hsz _).alloc (by simp; omega) _⟩
    have k0 := ((Kp.alloc 0 W3 (.cells #[.func fl #[] cl] 160)).trans (Kp.alloc 0 _ (.cells #[.func fr #[] cr] 160)))
    have bx1 := ((Kp.alloc 0 _ (.cells #[.func fr #[] cr] 160)).trans hW).box (heap_alloc_new W3 (.cells #[.func fl #[] cl] 160))
    have bx2 := hW.box (heap_alloc_new (W3.alloc (.cells #[.func fl #[] cl] 160)) (.cells #[.func fr #[] cr] 160))
    rw [World.size_alloc] at bx2
    exact equals1_any _ _ y hy _ _ L R W3 W (k0.trans hW) h0 hT HM.out.1 HM.out.2 bx1 bx2
  · have g := get_map m3 35 101 (by simp) (by simp)
    change (Instr.lookup 171 (.map (some w.heap.size)) (.int .u8 35) false).run Tryd.prog W3 = .ok (.func (.func 101) #[] #[]) W3 at g
    show Calls Tryd.prog 91 #[.int .u8 35, .func fl #[] cl, .func fr #[] cr] w _
    have en := enters_of Tryd.func101 (by kernel_rfl) rfl
    clear m3
    go_enter Tryd.func91, Tryd.ntmps91
    go_wp2_with fail
    refine (differs_any (.func fl #[] cl) (.func fr #[] cr) rfl rfl W3).mono ?_
    rintro e w4 ⟨rfl, rfl⟩
    go_wp2
    go_ret
    refine ⟨⟨_, _, rfl, 105, _, rfl, enters_of Tryd.func105 (by kernel_rfl) rfl, fun W hW h0 hT y hy => ?_⟩, (HB.out.alloc hsz _).alloc (by simp; omega) _⟩
    have k0 := ((Kp.alloc 0 W3 (.cells #[.func fl #[] cl] 160)).trans (Kp.alloc 0 _ (.cells #[.func fr #[] cr] 160)))
    have bx1 := ((Kp.alloc 0 _ (.cells #[.func fr #[] cr] 160)).trans hW).box (heap_alloc_new W3 (.cells #[.func fl #[] cl] 160))
    have bx2 := hW.box (heap_alloc_new (W3.alloc (.cells #[.func fl #[] cl] 160)) (.cells #[.func fr #[] cr] 160))
    rw [World.size_alloc] at bx2
    exact differs1_any _ _ y hy _ _ L R W3 W (k0.trans hW) h0 hT HM.out.1 HM.out.2 bx1 bx2
  · have g := get_map m3 60 102 (by simp) (by simp)
    change (Instr.lookup 171 (.map (some w.heap.size)) (.int .u8 60) false).run Tryd.prog W3 = .ok (.func (.func 102) #[] #[]) W3 at g
    show Calls Tryd.prog 91 #[.int .u8 60, .func fl #[] cl, .func fr #[] cr] w _
    have en := enters_of Tryd.func102 (by kernel_rfl) rfl
    clear m3
    go_enter Tryd.func91, Tryd.ntmps91
    go_wp2_with fail
    refine (isBelow_any (.func fl #[] cl) (.func fr #[] cr) rfl rfl W3).mono ?_
    rintro e w4 ⟨rfl, rfl⟩
    go_wp2
    go_ret
    refine ⟨⟨_, _, rfl, 106, _, rfl, enters_of Tryd.func106 (by kernel_rfl) rfl, fun W hW h0 hT y hy => ?_⟩, (HB.out.alloc hsz _).alloc (by simp; omega) _⟩
    have k0 := ((Kp.alloc 0 W3 (.cells #[.func fl #[] cl] 160)).trans (Kp.alloc 0 _ (.cells #[.func fr #[] cr] 160)))
    have bx1 := ((Kp.alloc 0 _ (.cells #[.func fr #[] cr] 160)).trans hW).box (heap_alloc_new W3 (.cells #[.func fl #[] cl] 160))
    have bx2 := hW.box (heap_alloc_new (W3.alloc (.cells #[.func fl #[] cl] 160)) (.cells #[.func fr #[] cr] 160))
    rw [World.size_alloc] at bx2
    exact isBelow1_any _ _ y hy _ _ L R W3 W (k0.trans hW) h0 hT HM.out.1 HM.out.2 bx1 bx2
end Go.Proofs.YtkbmolodljenjaaDoor
