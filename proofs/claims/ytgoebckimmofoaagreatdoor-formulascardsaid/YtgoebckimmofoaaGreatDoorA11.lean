import Derived.Test.YtgoebckimmofoaaGreatDoorA10
import Derived.Deep.LoopGhost
/- What a sign makes: the table. Our own text. -/
namespace Go.Proofs.YtgoebckimmofoaaGreatDoor
open Go.RowKit Go.Lib
/-! A map from bytes to function values, of another type. -/
theorem run_put9 (r : Nat) (es : Array MapEntry) (clock k : Nat) (v : Value) (W : World) (hb : W.heap[r]? = some (.map es clock)) (hk : ∀ x ∈ es.toList, MapKept.IsKey (.int .u8) x.key ∧ x.key ≠ .int .u8 k) :
    (Instr.mapUpdate 302 (.map (some r)) (.int .u8 k) v).run Tryz.prog W = .ok () { W with heap := W.heap.setIfInBounds r (.map (es.push { key := .int .u8 k, val := v, born := clock }) (clock + 1)) } := by
  have hk0 : MapKept.IsKey (.int .u8) (.int .u8 k) := by trivial
  rcases MapKept.findNow_spec hk0 es.toList 0 (fun x hx => (hk x hx).1) with ⟨h1, h2⟩ | ⟨j, e, h1, h2, h3⟩
  · simp [Instr.mapUpdate, run_underlying Tryz.underlying302, MapKept.run_getObj_map hb, MapKept.run_checkKey Tryz.underlying5 hk0, MapKept.run_findKey Tryz.underlying5 h1, MapKept.run_setObj_map _ hb, Result.andThen]
  · exact absurd h3 (hk e (List.mem_of_getElem? (by simpa using h2))).2
theorem run_get9 (r : Nat) (es : Array MapEntry) (clock k : Nat) (v : Value) (W : World) (hb : W.heap[r]? = some (.map es clock)) (hk : ∀ x ∈ es.toList, MapKept.IsKey (.int .u8) x.key ∧ (x.key = .int .u8 k → x.val = v)) (hin : ∃ x ∈ es.toList, x.key = .int .u8 k) :
    (Instr.lookup 302 (.map (some r)) (.int .u8 k) false).run Tryz.prog W = .ok v W := by
  have hk0 : MapKept.IsKey (.int .u8) (.int .u8 k) := by trivial
  rcases MapKept.findNow_spec hk0 es.toList 0 (fun x hx => (hk x hx).1) with ⟨h1, h2⟩ | ⟨j, e, h1, h2, h3⟩
  · obtain ⟨x, hx, he⟩ := hin
    exact absurd he (h2 x hx)
  · have hv := (hk e (List.mem_of_getElem? (by simpa using h2))).2 h3
    rw [hv] at h1
    simp [Instr.lookup, run_underlying Tryz.underlying302, MapKept.run_getObj_map hb, MapKept.run_checkKey Tryz.underlying5 hk0, MapKept.run_findKey Tryz.underlying5 h1, Result.andThen]
theorem put_map9 {W : World} {r : Nat} {l : List (Nat × Nat)} (h : MapAt W r l) (k f : Nat) (hk : ∀ e ∈ l, e.1 ≠ k) :
    ∃ W', (Instr.mapUpdate 302 (.map (some r)) (.int .u8 k) (.func (.func f) #[] #[])).run Tryz.prog W = .ok () W' ∧ MapAt W' r ((k, f) :: l) ∧ Ex r W W' := by
  refine ⟨_, run_put9 r _ _ k _ W h ?_, ?_, ?_⟩
  · intro x hx
    obtain ⟨e, he, h1, h2⟩ := entsOf_mem (l := l) (by simpa using hx)
    rw [h1]
    refine ⟨by trivial, ?_⟩
    intro h3
    simp at h3
    exact hk e he (by omega)
  · unfold MapAt
    have := (MapKept.heap_set (o' := .map ((entsOf l).toArray.push { key := .int .u8 k, val := .func (.func f) #[] #[], born := l.length }) (l.length + 1)) h).1
    simpa [entsOf] using this
  · exact ⟨rfl, rfl, rfl, by simp, fun i _ hi => (MapKept.heap_set h).2 i hi⟩
theorem get_map9 {W : World} {r : Nat} {l : List (Nat × Nat)} (h : MapAt W r l) (k f : Nat) (hin : (k, f) ∈ l) (hu : ∀ e ∈ l, e.1 = k → e.2 = f) :
    (Instr.lookup 302 (.map (some r)) (.int .u8 k) false).run Tryz.prog W = .ok (.func (.func f) #[] #[]) W := by
  refine run_get9 r _ _ k _ W h ?_ ?_
  · intro x hx
    obtain ⟨e, he, h1, h2⟩ := entsOf_mem (l := l) (by simpa using hx)
    rw [h1]
    refine ⟨by trivial, ?_⟩
    intro h3
    simp at h3
    rw [h2, hu e he (by omega)]
  · obtain ⟨x, h1, h2⟩ := mem_entsOf hin
    exact ⟨x, by simpa using h1, h2⟩
section
variable {B M : Nat} {s : ByteArray} {t : T} {wh : Value} {opn deep : Nat} {ps : List Pt} {wvs : List WV} {aw : Option Addr} {cw : Nat} {w : World} {fl fr : Nat} {cl cr : Array Value} {f g : G}
set_option maxRecDepth 100000 in
set_option maxHeartbeats 1600000 in
theorem build_33 (lv : Value) (hg : FnP w (.func (.func fr) #[] cr) g) (h : FP B M s t wh opn deep ps wvs aw cw w) :
    Calls Tryz.prog 174 #[.pointer (some ⟨B, 5, none⟩), .int .u8 33, lv, .func (.func fr) #[] cr] w (MakePost B M s t wh opn deep (bld 33 (fun _ _ => true) g ps) wvs aw cw w) := by
  have hmk : (Instr.makeMap 302 none).run Tryz.prog w = .ok (.map (some w.heap.size)) (w.alloc (.map #[] 0)) := by simp [Instr.makeMap, Result.andThen]
  have m0 : MapAt (w.alloc (.map #[] 0)) w.heap.size [] := heap_alloc_new w (.map #[] 0)
  obtain ⟨W1, r1, m1, x1⟩ := put_map9 m0 33 194 (by simp)
  change (Instr.mapUpdate 302 (.map (some w.heap.size)) (.int .u8 33) (.func (.func 194) #[] #[])).run Tryz.prog (w.alloc (.map #[] 0)) = .ok () W1 at r1
  obtain ⟨W2, r2, m2, x2⟩ := put_map9 m1 38 195 (by simp)
  change (Instr.mapUpdate 302 (.map (some w.heap.size)) (.int .u8 38) (.func (.func 195) #[] #[])).run Tryz.prog W1 = .ok () W2 at r2
  obtain ⟨W3, r3, m3, x3⟩ := put_map9 m2 124 196 (by simp)
  change (Instr.mapUpdate 302 (.map (some w.heap.size)) (.int .u8 124) (.func (.func 196) #[] #[])).run Tryz.prog W2 = .ok () W3 at r3
  obtain ⟨W4, r4, m4, x4⟩ := put_map9 m3 88 197 (by simp)
  change (Instr.mapUpdate 302 (.map (some w.heap.size)) (.int .u8 88) (.func (.func 197) #[] #[])).run Tryz.prog W3 = .ok () W4 at r4
  obtain ⟨W5, r5, m5, x5⟩ := put_map9 m4 70 198 (by simp)
  change (Instr.mapUpdate 302 (.map (some w.heap.size)) (.int .u8 70) (.func (.func 198) #[] #[])).run Tryz.prog W4 = .ok () W5 at r5
  obtain ⟨W6, r6, m6, x6⟩ := put_map9 m5 71 199 (by simp)
  change (Instr.mapUpdate 302 (.map (some w.heap.size)) (.int .u8 71) (.func (.func 199) #[] #[])).run Tryz.prog W5 = .ok () W6 at r6
  obtain ⟨W7, r7, m7, x7⟩ := put_map9 m6 85 200 (by simp)
  change (Instr.mapUpdate 302 (.map (some w.heap.size)) (.int .u8 85) (.func (.func 200) #[] #[])).run Tryz.prog W6 = .ok () W7 at r7
  obtain ⟨W8, r8, m8, x8⟩ := put_map9 m7 82 201 (by simp)
  change (Instr.mapUpdate 302 (.map (some w.heap.size)) (.int .u8 82) (.func (.func 201) #[] #[])).run Tryz.prog W7 = .ok () W8 at r8
  obtain ⟨W9, r9, m9, x9⟩ := put_map9 m8 87 202 (by simp)
  change (Instr.mapUpdate 302 (.map (some w.heap.size)) (.int .u8 87) (.func (.func 202) #[] #[])).run Tryz.prog W8 = .ok () W9 at r9
  have hB : Below w.heap.size w W9 := ((Below.refl _ w).alloc (Nat.le_refl _) _).trans (((((((((x1.trans x2).trans x3).trans x4).trans x5).trans x6).trans x7).trans x8).trans x9).below (Nat.le_refl _) (by simp))
  have kp := KP.of_below hB
  have HM : Put (_) := ⟨not_any lv (hg.kp kp) (h.below hB)⟩
  have HF : Put (Fr B w W9) := ⟨Fr.of_below hB (Nat.le_of_lt h.lt)⟩
  have gg := get_map9 m9 33 194 (by simp) (by simp)
  change (Instr.lookup 302 (.map (some w.heap.size)) (.int .u8 33) false).run Tryz.prog W9 = .ok (.func (.func 194) #[] #[]) W9 at gg
  have en := enters_of Tryz.func194 (by kernel_rfl) rfl
  clear m0 m1 m2 m3 m4 m5 m6 m7 m8 m9 x1 x2 x3 x4 x5 x6 x7 x8 x9 hB kp h hg
  go_enter Tryz.func174, Tryz.ntmps174
  go_wp2_with fail
  refine HM.out.mono ?_
  rintro e' w5 ⟨b, j', rfl, h1, h2, h3⟩
  go_wp2
  go_ret
  exact ⟨_, _, rfl, h1, h2, HF.out.trans h3⟩
set_option maxRecDepth 100000 in
set_option maxHeartbeats 1600000 in
theorem build_38 (hf : FnP w (.func (.func fl) #[] cl) f) (hg : FnP w (.func (.func fr) #[] cr) g) (h : FP B M s t wh opn deep ps wvs aw cw w) :
    Calls Tryz.prog 174 #[.pointer (some ⟨B, 5, none⟩), .int .u8 38, .func (.func fl) #[] cl, .func (.func fr) #[] cr] w (MakePost B M s t wh opn deep (bld 38 f g ps) wvs aw cw w) := by
  have hmk : (Instr.makeMap 302 none).run Tryz.prog w = .ok (.map (some w.heap.size)) (w.alloc (.map #[] 0)) := by simp [Instr.makeMap, Result.andThen]
  have m0 : MapAt (w.alloc (.map #[] 0)) w.heap.size [] := heap_alloc_new w (.map #[] 0)
  obtain ⟨W1, r1, m1, x1⟩ := put_map9 m0 33 194 (by simp)
  change (Instr.mapUpdate 302 (.map (some w.heap.size)) (.int .u8 33) (.func (.func 194) #[] #[])).run Tryz.prog (w.alloc (.map #[] 0)) = .ok () W1 at r1
  obtain ⟨W2, r2, m2, x2⟩ := put_map9 m1 38 195 (by simp)
  change (Instr.mapUpdate 302 (.map (some w.heap.size)) (.int .u8 38) (.func (.func 195) #[] #[])).run Tryz.prog W1 = .ok () W2 at r2
  obtain ⟨W3, r3, m3, x3⟩ := put_map9 m2 124 196 (by simp)
  change (Instr.mapUpdate 302 (.map (some w.heap.size)) (.int .u8 124) (.func (.func 196) #[] #[])).run Tryz.prog W2 = .ok () W3 at r3
  obtain ⟨W4, r4, m4, x4⟩ := put_map9 m3 88 197 (by simp)
  change (Instr.mapUpdate 302 (.map (some w.heap.size)) (.int .u8 88) (.func (.func 197) #[] #[])).run Tryz.prog W3 = .ok () W4 at r4
  obtain ⟨W5, r5, m5, x5⟩ := put_map9 m4 70 198 (by simp)
  change (Instr.mapUpdate 302 (.map (some w.heap.size)) (.int .u8 70) (.func (.func 198) #[] #[])).run Tryz.prog W4 = .ok () W5 at r5
  obtain ⟨W6, r6, m6, x6⟩ := put_map9 m5 71 199 (by simp)
  change (Instr.mapUpdate 302 (.map (some w.heap.size)) (.int .u8 71) (.func (.func 199) #[] #[])).run Tryz.prog W5 = .ok () W6 at r6
  obtain ⟨W7, r7, m7, x7⟩ := put_map9 m6 85 200 (by simp)
  change (Instr.mapUpdate 302 (.map (some w.heap.size)) (.int .u8 85) (.func (.func 200) #[] #[])).run Tryz.prog W6 = .ok () W7 at r7
  obtain ⟨W8, r8, m8, x8⟩ := put_map9 m7 82 201 (by simp)
  change (Instr.mapUpdate 302 (.map (some w.heap.size)) (.int .u8 82) (.func (.func 201) #[] #[])).run Tryz.prog W7 = .ok () W8 at r8
  obtain ⟨W9, r9, m9, x9⟩ := put_map9 m8 87 202 (by simp)
  change (Instr.mapUpdate 302 (.map (some w.heap.size)) (.int .u8 87) (.func (.func 202) #[] #[])).run Tryz.prog W8 = .ok () W9 at r9
  have hB : Below w.heap.size w W9 := ((Below.refl _ w).alloc (Nat.le_refl _) _).trans (((((((((x1.trans x2).trans x3).trans x4).trans x5).trans x6).trans x7).trans x8).trans x9).below (Nat.le_refl _) (by simp))
  have kp := KP.of_below hB
  have HM : Put (_) := ⟨and_any (hf.kp kp) (hg.kp kp) (h.below hB)⟩
  have HF : Put (Fr B w W9) := ⟨Fr.of_below hB (Nat.le_of_lt h.lt)⟩
  have gg := get_map9 m9 38 195 (by simp) (by simp)
  change (Instr.lookup 302 (.map (some w.heap.size)) (.int .u8 38) false).run Tryz.prog W9 = .ok (.func (.func 195) #[] #[]) W9 at gg
  have en := enters_of Tryz.func195 (by kernel_rfl) rfl
  clear m0 m1 m2 m3 m4 m5 m6 m7 m8 m9 x1 x2 x3 x4 x5 x6 x7 x8 x9 hB kp h hg hf
  go_enter Tryz.func174, Tryz.ntmps174
  go_wp2_with fail
  refine HM.out.mono ?_
  rintro e' w5 ⟨b, j', rfl, h1, h2, h3⟩
  go_wp2
  go_ret
  exact ⟨_, _, rfl, h1, h2, HF.out.trans h3⟩
set_option maxRecDepth 100000 in
set_option maxHeartbeats 1600000 in
theorem build_124 (hf : FnP w (.func (.func fl) #[] cl) f) (hg : FnP w (.func (.func fr) #[] cr) g) (h : FP B M s t wh opn deep ps wvs aw cw w) :
    Calls Tryz.prog 174 #[.pointer (some ⟨B, 5, none⟩), .int .u8 124, .func (.func fl) #[] cl, .func (.func fr) #[] cr] w (MakePost B M s t wh opn deep (bld 124 f g ps) wvs aw cw w) := by
  have hmk : (Instr.makeMap 302 none).run Tryz.prog w = .ok (.map (some w.heap.size)) (w.alloc (.map #[] 0)) := by simp [Instr.makeMap, Result.andThen]
  have m0 : MapAt (w.alloc (.map #[] 0)) w.heap.size [] := heap_alloc_new w (.map #[] 0)
  obtain ⟨W1, r1, m1, x1⟩ := put_map9 m0 33 194 (by simp)
  change (Instr.mapUpdate 302 (.map (some w.heap.size)) (.int .u8 33) (.func (.func 194) #[] #[])).run Tryz.prog (w.alloc (.map #[] 0)) = .ok () W1 at r1
  obtain ⟨W2, r2, m2, x2⟩ := put_map9 m1 38 195 (by simp)
  change (Instr.mapUpdate 302 (.map (some w.heap.size)) (.int .u8 38) (.func (.func 195) #[] #[])).run Tryz.prog W1 = .ok () W2 at r2
  obtain ⟨W3, r3, m3, x3⟩ := put_map9 m2 124 196 (by simp)
  change (Instr.mapUpdate 302 (.map (some w.heap.size)) (.int .u8 124) (.func (.func 196) #[] #[])).run Tryz.prog W2 = .ok () W3 at r3
  obtain ⟨W4, r4, m4, x4⟩ := put_map9 m3 88 197 (by simp)
  change (Instr.mapUpdate 302 (.map (some w.heap.size)) (.int .u8 88) (.func (.func 197) #[] #[])).run Tryz.prog W3 = .ok () W4 at r4
  obtain ⟨W5, r5, m5, x5⟩ := put_map9 m4 70 198 (by simp)
  change (Instr.mapUpdate 302 (.map (some w.heap.size)) (.int .u8 70) (.func (.func 198) #[] #[])).run Tryz.prog W4 = .ok () W5 at r5
  obtain ⟨W6, r6, m6, x6⟩ := put_map9 m5 71 199 (by simp)
  change (Instr.mapUpdate 302 (.map (some w.heap.size)) (.int .u8 71) (.func (.func 199) #[] #[])).run Tryz.prog W5 = .ok () W6 at r6
  obtain ⟨W7, r7, m7, x7⟩ := put_map9 m6 85 200 (by simp)
  change (Instr.mapUpdate 302 (.map (some w.heap.size)) (.int .u8 85) (.func (.func 200) #[] #[])).run Tryz.prog W6 = .ok () W7 at r7
  obtain ⟨W8, r8, m8, x8⟩ := put_map9 m7 82 201 (by simp)
  change (Instr.mapUpdate 302 (.map (some w.heap.size)) (.int .u8 82) (.func (.func 201) #[] #[])).run Tryz.prog W7 = .ok () W8 at r8
  obtain ⟨W9, r9, m9, x9⟩ := put_map9 m8 87 202 (by simp)
  change (Instr.mapUpdate 302 (.map (some w.heap.size)) (.int .u8 87) (.func (.func 202) #[] #[])).run Tryz.prog W8 = .ok () W9 at r9
  have hB : Below w.heap.size w W9 := ((Below.refl _ w).alloc (Nat.le_refl _) _).trans (((((((((x1.trans x2).trans x3).trans x4).trans x5).trans x6).trans x7).trans x8).trans x9).below (Nat.le_refl _) (by simp))
  have kp := KP.of_below hB
  have HM : Put (_) := ⟨or_any (hf.kp kp) (hg.kp kp) (h.below hB)⟩
  have HF : Put (Fr B w W9) := ⟨Fr.of_below hB (Nat.le_of_lt h.lt)⟩
  have gg := get_map9 m9 124 196 (by simp) (by simp)
  change (Instr.lookup 302 (.map (some w.heap.size)) (.int .u8 124) false).run Tryz.prog W9 = .ok (.func (.func 196) #[] #[]) W9 at gg
  have en := enters_of Tryz.func196 (by kernel_rfl) rfl
  clear m0 m1 m2 m3 m4 m5 m6 m7 m8 m9 x1 x2 x3 x4 x5 x6 x7 x8 x9 hB kp h hg hf
  go_enter Tryz.func174, Tryz.ntmps174
  go_wp2_with fail
  refine HM.out.mono ?_
  rintro e' w5 ⟨b, j', rfl, h1, h2, h3⟩
  go_wp2
  go_ret
  exact ⟨_, _, rfl, h1, h2, HF.out.trans h3⟩
set_option maxRecDepth 100000 in
set_option maxHeartbeats 1600000 in
theorem build_88 (lv : Value) (hl : ps.length < 60) (hg : FnP w (.func (.func fr) #[] cr) g) (h : FP B M s t wh opn deep ps wvs aw cw w) :
    Calls Tryz.prog 174 #[.pointer (some ⟨B, 5, none⟩), .int .u8 88, lv, .func (.func fr) #[] cr] w (MakePost B M s t wh opn deep (bld 88 (fun _ _ => true) g ps) wvs aw cw w) := by
  have hmk : (Instr.makeMap 302 none).run Tryz.prog w = .ok (.map (some w.heap.size)) (w.alloc (.map #[] 0)) := by simp [Instr.makeMap, Result.andThen]
  have m0 : MapAt (w.alloc (.map #[] 0)) w.heap.size [] := heap_alloc_new w (.map #[] 0)
  obtain ⟨W1, r1, m1, x1⟩ := put_map9 m0 33 194 (by simp)
  change (Instr.mapUpdate 302 (.map (some w.heap.size)) (.int .u8 33) (.func (.func 194) #[] #[])).run Tryz.prog (w.alloc (.map #[] 0)) = .ok () W1 at r1
  obtain ⟨W2, r2, m2, x2⟩ := put_map9 m1 38 195 (by simp)
  change (Instr.mapUpdate 302 (.map (some w.heap.size)) (.int .u8 38) (.func (.func 195) #[] #[])).run Tryz.prog W1 = .ok () W2 at r2
  obtain ⟨W3, r3, m3, x3⟩ := put_map9 m2 124 196 (by simp)
  change (Instr.mapUpdate 302 (.map (some w.heap.size)) (.int .u8 124) (.func (.func 196) #[] #[])).run Tryz.prog W2 = .ok () W3 at r3
  obtain ⟨W4, r4, m4, x4⟩ := put_map9 m3 88 197 (by simp)
  change (Instr.mapUpdate 302 (.map (some w.heap.size)) (.int .u8 88) (.func (.func 197) #[] #[])).run Tryz.prog W3 = .ok () W4 at r4
  obtain ⟨W5, r5, m5, x5⟩ := put_map9 m4 70 198 (by simp)
  change (Instr.mapUpdate 302 (.map (some w.heap.size)) (.int .u8 70) (.func (.func 198) #[] #[])).run Tryz.prog W4 = .ok () W5 at r5
  obtain ⟨W6, r6, m6, x6⟩ := put_map9 m5 71 199 (by simp)
  change (Instr.mapUpdate 302 (.map (some w.heap.size)) (.int .u8 71) (.func (.func 199) #[] #[])).run Tryz.prog W5 = .ok () W6 at r6
  obtain ⟨W7, r7, m7, x7⟩ := put_map9 m6 85 200 (by simp)
  change (Instr.mapUpdate 302 (.map (some w.heap.size)) (.int .u8 85) (.func (.func 200) #[] #[])).run Tryz.prog W6 = .ok () W7 at r7
  obtain ⟨W8, r8, m8, x8⟩ := put_map9 m7 82 201 (by simp)
  change (Instr.mapUpdate 302 (.map (some w.heap.size)) (.int .u8 82) (.func (.func 201) #[] #[])).run Tryz.prog W7 = .ok () W8 at r8
  obtain ⟨W9, r9, m9, x9⟩ := put_map9 m8 87 202 (by simp)
  change (Instr.mapUpdate 302 (.map (some w.heap.size)) (.int .u8 87) (.func (.func 202) #[] #[])).run Tryz.prog W8 = .ok () W9 at r9
  have hB : Below w.heap.size w W9 := ((Below.refl _ w).alloc (Nat.le_refl _) _).trans (((((((((x1.trans x2).trans x3).trans x4).trans x5).trans x6).trans x7).trans x8).trans x9).below (Nat.le_refl _) (by simp))
  have kp := KP.of_below hB
  have HM : Put (_) := ⟨next_mk lv hl (hg.kp kp) (h.below hB)⟩
  have HF : Put (Fr B w W9) := ⟨Fr.of_below hB (Nat.le_of_lt h.lt)⟩
  have gg := get_map9 m9 88 197 (by simp) (by simp)
  change (Instr.lookup 302 (.map (some w.heap.size)) (.int .u8 88) false).run Tryz.prog W9 = .ok (.func (.func 197) #[] #[]) W9 at gg
  have en := enters_of Tryz.func197 (by kernel_rfl) rfl
  clear m0 m1 m2 m3 m4 m5 m6 m7 m8 m9 x1 x2 x3 x4 x5 x6 x7 x8 x9 hB kp h hg
  go_enter Tryz.func174, Tryz.ntmps174
  go_wp2_with fail
  refine HM.out.mono ?_
  rintro e' w5 ⟨b, j', rfl, h1, h2, h3⟩
  go_wp2
  go_ret
  exact ⟨_, _, rfl, h1, h2, HF.out.trans h3⟩
set_option maxRecDepth 100000 in
set_option maxHeartbeats 1600000 in
theorem build_70 (lv : Value) (hl : ps.length < 60) (hg : FnP w (.func (.func fr) #[] cr) g) (h : FP B M s t wh opn deep ps wvs aw cw w) :
    Calls Tryz.prog 174 #[.pointer (some ⟨B, 5, none⟩), .int .u8 70, lv, .func (.func fr) #[] cr] w (MakePost B M s t wh opn deep (bld 70 (fun _ _ => true) g ps) wvs aw cw w) := by
  have hmk : (Instr.makeMap 302 none).run Tryz.prog w = .ok (.map (some w.heap.size)) (w.alloc (.map #[] 0)) := by simp [Instr.makeMap, Result.andThen]
  have m0 : MapAt (w.alloc (.map #[] 0)) w.heap.size [] := heap_alloc_new w (.map #[] 0)
  obtain ⟨W1, r1, m1, x1⟩ := put_map9 m0 33 194 (by simp)
  change (Instr.mapUpdate 302 (.map (some w.heap.size)) (.int .u8 33) (.func (.func 194) #[] #[])).run Tryz.prog (w.alloc (.map #[] 0)) = .ok () W1 at r1
  obtain ⟨W2, r2, m2, x2⟩ := put_map9 m1 38 195 (by simp)
  change (Instr.mapUpdate 302 (.map (some w.heap.size)) (.int .u8 38) (.func (.func 195) #[] #[])).run Tryz.prog W1 = .ok () W2 at r2
  obtain ⟨W3, r3, m3, x3⟩ := put_map9 m2 124 196 (by simp)
  change (Instr.mapUpdate 302 (.map (some w.heap.size)) (.int .u8 124) (.func (.func 196) #[] #[])).run Tryz.prog W2 = .ok () W3 at r3
  obtain ⟨W4, r4, m4, x4⟩ := put_map9 m3 88 197 (by simp)
  change (Instr.mapUpdate 302 (.map (some w.heap.size)) (.int .u8 88) (.func (.func 197) #[] #[])).run Tryz.prog W3 = .ok () W4 at r4
  obtain ⟨W5, r5, m5, x5⟩ := put_map9 m4 70 198 (by simp)
  change (Instr.mapUpdate 302 (.map (some w.heap.size)) (.int .u8 70) (.func (.func 198) #[] #[])).run Tryz.prog W4 = .ok () W5 at r5
  obtain ⟨W6, r6, m6, x6⟩ := put_map9 m5 71 199 (by simp)
  change (Instr.mapUpdate 302 (.map (some w.heap.size)) (.int .u8 71) (.func (.func 199) #[] #[])).run Tryz.prog W5 = .ok () W6 at r6
  obtain ⟨W7, r7, m7, x7⟩ := put_map9 m6 85 200 (by simp)
  change (Instr.mapUpdate 302 (.map (some w.heap.size)) (.int .u8 85) (.func (.func 200) #[] #[])).run Tryz.prog W6 = .ok () W7 at r7
  obtain ⟨W8, r8, m8, x8⟩ := put_map9 m7 82 201 (by simp)
  change (Instr.mapUpdate 302 (.map (some w.heap.size)) (.int .u8 82) (.func (.func 201) #[] #[])).run Tryz.prog W7 = .ok () W8 at r8
  obtain ⟨W9, r9, m9, x9⟩ := put_map9 m8 87 202 (by simp)
  change (Instr.mapUpdate 302 (.map (some w.heap.size)) (.int .u8 87) (.func (.func 202) #[] #[])).run Tryz.prog W8 = .ok () W9 at r9
  have hB : Below w.heap.size w W9 := ((Below.refl _ w).alloc (Nat.le_refl _) _).trans (((((((((x1.trans x2).trans x3).trans x4).trans x5).trans x6).trans x7).trans x8).trans x9).below (Nat.le_refl _) (by simp))
  have kp := KP.of_below hB
  have HM : Put (_) := ⟨some_mk lv hl (hg.kp kp) (h.below hB)⟩
  have HF : Put (Fr B w W9) := ⟨Fr.of_below hB (Nat.le_of_lt h.lt)⟩
  have gg := get_map9 m9 70 198 (by simp) (by simp)
  change (Instr.lookup 302 (.map (some w.heap.size)) (.int .u8 70) false).run Tryz.prog W9 = .ok (.func (.func 198) #[] #[]) W9 at gg
  have en := enters_of Tryz.func198 (by kernel_rfl) rfl
  clear m0 m1 m2 m3 m4 m5 m6 m7 m8 m9 x1 x2 x3 x4 x5 x6 x7 x8 x9 hB kp h hg
  go_enter Tryz.func174, Tryz.ntmps174
  go_wp2_with fail
  refine HM.out.mono ?_
  rintro e' w5 ⟨b, j', rfl, h1, h2, h3⟩
  go_wp2
  go_ret
  exact ⟨_, _, rfl, h1, h2, HF.out.trans h3⟩
set_option maxRecDepth 100000 in
set_option maxHeartbeats 1600000 in
theorem build_71 (lv : Value) (hl : ps.length < 60) (hg : FnP w (.func (.func fr) #[] cr) g) (h : FP B M s t wh opn deep ps wvs aw cw w) :
    Calls Tryz.prog 174 #[.pointer (some ⟨B, 5, none⟩), .int .u8 71, lv, .func (.func fr) #[] cr] w (MakePost B M s t wh opn deep (bld 71 (fun _ _ => true) g ps) wvs aw cw w) := by
  have hmk : (Instr.makeMap 302 none).run Tryz.prog w = .ok (.map (some w.heap.size)) (w.alloc (.map #[] 0)) := by simp [Instr.makeMap, Result.andThen]
  have m0 : MapAt (w.alloc (.map #[] 0)) w.heap.size [] := heap_alloc_new w (.map #[] 0)
  obtain ⟨W1, r1, m1, x1⟩ := put_map9 m0 33 194 (by simp)
  change (Instr.mapUpdate 302 (.map (some w.heap.size)) (.int .u8 33) (.func (.func 194) #[] #[])).run Tryz.prog (w.alloc (.map #[] 0)) = .ok () W1 at r1
  obtain ⟨W2, r2, m2, x2⟩ := put_map9 m1 38 195 (by simp)
  change (Instr.mapUpdate 302 (.map (some w.heap.size)) (.int .u8 38) (.func (.func 195) #[] #[])).run Tryz.prog W1 = .ok () W2 at r2
  obtain ⟨W3, r3, m3, x3⟩ := put_map9 m2 124 196 (by simp)
  change (Instr.mapUpdate 302 (.map (some w.heap.size)) (.int .u8 124) (.func (.func 196) #[] #[])).run Tryz.prog W2 = .ok () W3 at r3
  obtain ⟨W4, r4, m4, x4⟩ := put_map9 m3 88 197 (by simp)
  change (Instr.mapUpdate 302 (.map (some w.heap.size)) (.int .u8 88) (.func (.func 197) #[] #[])).run Tryz.prog W3 = .ok () W4 at r4
  obtain ⟨W5, r5, m5, x5⟩ := put_map9 m4 70 198 (by simp)
  change (Instr.mapUpdate 302 (.map (some w.heap.size)) (.int .u8 70) (.func (.func 198) #[] #[])).run Tryz.prog W4 = .ok () W5 at r5
  obtain ⟨W6, r6, m6, x6⟩ := put_map9 m5 71 199 (by simp)
  change (Instr.mapUpdate 302 (.map (some w.heap.size)) (.int .u8 71) (.func (.func 199) #[] #[])).run Tryz.prog W5 = .ok () W6 at r6
  obtain ⟨W7, r7, m7, x7⟩ := put_map9 m6 85 200 (by simp)
  change (Instr.mapUpdate 302 (.map (some w.heap.size)) (.int .u8 85) (.func (.func 200) #[] #[])).run Tryz.prog W6 = .ok () W7 at r7
  obtain ⟨W8, r8, m8, x8⟩ := put_map9 m7 82 201 (by simp)
  change (Instr.mapUpdate 302 (.map (some w.heap.size)) (.int .u8 82) (.func (.func 201) #[] #[])).run Tryz.prog W7 = .ok () W8 at r8
  obtain ⟨W9, r9, m9, x9⟩ := put_map9 m8 87 202 (by simp)
  change (Instr.mapUpdate 302 (.map (some w.heap.size)) (.int .u8 87) (.func (.func 202) #[] #[])).run Tryz.prog W8 = .ok () W9 at r9
  have hB : Below w.heap.size w W9 := ((Below.refl _ w).alloc (Nat.le_refl _) _).trans (((((((((x1.trans x2).trans x3).trans x4).trans x5).trans x6).trans x7).trans x8).trans x9).below (Nat.le_refl _) (by simp))
  have kp := KP.of_below hB
  have HM : Put (_) := ⟨all_mk lv hl (hg.kp kp) (h.below hB)⟩
  have HF : Put (Fr B w W9) := ⟨Fr.of_below hB (Nat.le_of_lt h.lt)⟩
  have gg := get_map9 m9 71 199 (by simp) (by simp)
  change (Instr.lookup 302 (.map (some w.heap.size)) (.int .u8 71) false).run Tryz.prog W9 = .ok (.func (.func 199) #[] #[]) W9 at gg
  have en := enters_of Tryz.func199 (by kernel_rfl) rfl
  clear m0 m1 m2 m3 m4 m5 m6 m7 m8 m9 x1 x2 x3 x4 x5 x6 x7 x8 x9 hB kp h hg
  go_enter Tryz.func174, Tryz.ntmps174
  go_wp2_with fail
  refine HM.out.mono ?_
  rintro e' w5 ⟨b, j', rfl, h1, h2, h3⟩
  go_wp2
  go_ret
  exact ⟨_, _, rfl, h1, h2, HF.out.trans h3⟩
set_option maxRecDepth 100000 in
set_option maxHeartbeats 1600000 in
theorem build_85 (hl : ps.length < 60) (hf : FnP w (.func (.func fl) #[] cl) f) (hg : FnP w (.func (.func fr) #[] cr) g) (h : FP B M s t wh opn deep ps wvs aw cw w) :
    Calls Tryz.prog 174 #[.pointer (some ⟨B, 5, none⟩), .int .u8 85, .func (.func fl) #[] cl, .func (.func fr) #[] cr] w (MakePost B M s t wh opn deep (bld 85 f g ps) wvs aw cw w) := by
  have hmk : (Instr.makeMap 302 none).run Tryz.prog w = .ok (.map (some w.heap.size)) (w.alloc (.map #[] 0)) := by simp [Instr.makeMap, Result.andThen]
  have m0 : MapAt (w.alloc (.map #[] 0)) w.heap.size [] := heap_alloc_new w (.map #[] 0)
  obtain ⟨W1, r1, m1, x1⟩ := put_map9 m0 33 194 (by simp)
  change (Instr.mapUpdate 302 (.map (some w.heap.size)) (.int .u8 33) (.func (.func 194) #[] #[])).run Tryz.prog (w.alloc (.map #[] 0)) = .ok () W1 at r1
  obtain ⟨W2, r2, m2, x2⟩ := put_map9 m1 38 195 (by simp)
  change (Instr.mapUpdate 302 (.map (some w.heap.size)) (.int .u8 38) (.func (.func 195) #[] #[])).run Tryz.prog W1 = .ok () W2 at r2
  obtain ⟨W3, r3, m3, x3⟩ := put_map9 m2 124 196 (by simp)
  change (Instr.mapUpdate 302 (.map (some w.heap.size)) (.int .u8 124) (.func (.func 196) #[] #[])).run Tryz.prog W2 = .ok () W3 at r3
  obtain ⟨W4, r4, m4, x4⟩ := put_map9 m3 88 197 (by simp)
  change (Instr.mapUpdate 302 (.map (some w.heap.size)) (.int .u8 88) (.func (.func 197) #[] #[])).run Tryz.prog W3 = .ok () W4 at r4
  obtain ⟨W5, r5, m5, x5⟩ := put_map9 m4 70 198 (by simp)
  change (Instr.mapUpdate 302 (.map (some w.heap.size)) (.int .u8 70) (.func (.func 198) #[] #[])).run Tryz.prog W4 = .ok () W5 at r5
  obtain ⟨W6, r6, m6, x6⟩ := put_map9 m5 71 199 (by simp)
  change (Instr.mapUpdate 302 (.map (some w.heap.size)) (.int .u8 71) (.func (.func 199) #[] #[])).run Tryz.prog W5 = .ok () W6 at r6
  obtain ⟨W7, r7, m7, x7⟩ := put_map9 m6 85 200 (by simp)
  change (Instr.mapUpdate 302 (.map (some w.heap.size)) (.int .u8 85) (.func (.func 200) #[] #[])).run Tryz.prog W6 = .ok () W7 at r7
  obtain ⟨W8, r8, m8, x8⟩ := put_map9 m7 82 201 (by simp)
  change (Instr.mapUpdate 302 (.map (some w.heap.size)) (.int .u8 82) (.func (.func 201) #[] #[])).run Tryz.prog W7 = .ok () W8 at r8
  obtain ⟨W9, r9, m9, x9⟩ := put_map9 m8 87 202 (by simp)
  change (Instr.mapUpdate 302 (.map (some w.heap.size)) (.int .u8 87) (.func (.func 202) #[] #[])).run Tryz.prog W8 = .ok () W9 at r9
  have hB : Below w.heap.size w W9 := ((Below.refl _ w).alloc (Nat.le_refl _) _).trans (((((((((x1.trans x2).trans x3).trans x4).trans x5).trans x6).trans x7).trans x8).trans x9).below (Nat.le_refl _) (by simp))
  have kp := KP.of_below hB
  have HM : Put (_) := ⟨until_mk hl (hf.kp kp) (hg.kp kp) (h.below hB)⟩
  have HF : Put (Fr B w W9) := ⟨Fr.of_below hB (Nat.le_of_lt h.lt)⟩
  have gg := get_map9 m9 85 200 (by simp) (by simp)
  change (Instr.lookup 302 (.map (some w.heap.size)) (.int .u8 85) false).run Tryz.prog W9 = .ok (.func (.func 200) #[] #[]) W9 at gg
  have en := enters_of Tryz.func200 (by kernel_rfl) rfl
  clear m0 m1 m2 m3 m4 m5 m6 m7 m8 m9 x1 x2 x3 x4 x5 x6 x7 x8 x9 hB kp h hg hf
  go_enter Tryz.func174, Tryz.ntmps174
  go_wp2_with fail
  refine HM.out.mono ?_
  rintro e' w5 ⟨b, j', rfl, h1, h2, h3⟩
  go_wp2
  go_ret
  exact ⟨_, _, rfl, h1, h2, HF.out.trans h3⟩
set_option maxRecDepth 100000 in
set_option maxHeartbeats 1600000 in
theorem build_82 (hl : ps.length < 60) (hf : FnP w (.func (.func fl) #[] cl) f) (hg : FnP w (.func (.func fr) #[] cr) g) (h : FP B M s t wh opn deep ps wvs aw cw w) :
    Calls Tryz.prog 174 #[.pointer (some ⟨B, 5, none⟩), .int .u8 82, .func (.func fl) #[] cl, .func (.func fr) #[] cr] w (MakePost B M s t wh opn deep (bld 82 f g ps) wvs aw cw w) := by
  have hmk : (Instr.makeMap 302 none).run Tryz.prog w = .ok (.map (some w.heap.size)) (w.alloc (.map #[] 0)) := by simp [Instr.makeMap, Result.andThen]
  have m0 : MapAt (w.alloc (.map #[] 0)) w.heap.size [] := heap_alloc_new w (.map #[] 0)
  obtain ⟨W1, r1, m1, x1⟩ := put_map9 m0 33 194 (by simp)
  change (Instr.mapUpdate 302 (.map (some w.heap.size)) (.int .u8 33) (.func (.func 194) #[] #[])).run Tryz.prog (w.alloc (.map #[] 0)) = .ok () W1 at r1
  obtain ⟨W2, r2, m2, x2⟩ := put_map9 m1 38 195 (by simp)
  change (Instr.mapUpdate 302 (.map (some w.heap.size)) (.int .u8 38) (.func (.func 195) #[] #[])).run Tryz.prog W1 = .ok () W2 at r2
  obtain ⟨W3, r3, m3, x3⟩ := put_map9 m2 124 196 (by simp)
  change (Instr.mapUpdate 302 (.map (some w.heap.size)) (.int .u8 124) (.func (.func 196) #[] #[])).run Tryz.prog W2 = .ok () W3 at r3
  obtain ⟨W4, r4, m4, x4⟩ := put_map9 m3 88 197 (by simp)
  change (Instr.mapUpdate 302 (.map (some w.heap.size)) (.int .u8 88) (.func (.func 197) #[] #[])).run Tryz.prog W3 = .ok () W4 at r4
  obtain ⟨W5, r5, m5, x5⟩ := put_map9 m4 70 198 (by simp)
  change (Instr.mapUpdate 302 (.map (some w.heap.size)) (.int .u8 70) (.func (.func 198) #[] #[])).run Tryz.prog W4 = .ok () W5 at r5
  obtain ⟨W6, r6, m6, x6⟩ := put_map9 m5 71 199 (by simp)
  change (Instr.mapUpdate 302 (.map (some w.heap.size)) (.int .u8 71) (.func (.func 199) #[] #[])).run Tryz.prog W5 = .ok () W6 at r6
  obtain ⟨W7, r7, m7, x7⟩ := put_map9 m6 85 200 (by simp)
  change (Instr.mapUpdate 302 (.map (some w.heap.size)) (.int .u8 85) (.func (.func 200) #[] #[])).run Tryz.prog W6 = .ok () W7 at r7
  obtain ⟨W8, r8, m8, x8⟩ := put_map9 m7 82 201 (by simp)
  change (Instr.mapUpdate 302 (.map (some w.heap.size)) (.int .u8 82) (.func (.func 201) #[] #[])).run Tryz.prog W7 = .ok () W8 at r8
  obtain ⟨W9, r9, m9, x9⟩ := put_map9 m8 87 202 (by simp)
  change (Instr.mapUpdate 302 (.map (some w.heap.size)) (.int .u8 87) (.func (.func 202) #[] #[])).run Tryz.prog W8 = .ok () W9 at r9
  have hB : Below w.heap.size w W9 := ((Below.refl _ w).alloc (Nat.le_refl _) _).trans (((((((((x1.trans x2).trans x3).trans x4).trans x5).trans x6).trans x7).trans x8).trans x9).below (Nat.le_refl _) (by simp))
  have kp := KP.of_below hB
  have HM : Put (_) := ⟨release_mk hl (hf.kp kp) (hg.kp kp) (h.below hB)⟩
  have HF : Put (Fr B w W9) := ⟨Fr.of_below hB (Nat.le_of_lt h.lt)⟩
  have gg := get_map9 m9 82 201 (by simp) (by simp)
  change (Instr.lookup 302 (.map (some w.heap.size)) (.int .u8 82) false).run Tryz.prog W9 = .ok (.func (.func 201) #[] #[]) W9 at gg
  have en := enters_of Tryz.func201 (by kernel_rfl) rfl
  clear m0 m1 m2 m3 m4 m5 m6 m7 m8 m9 x1 x2 x3 x4 x5 x6 x7 x8 x9 hB kp h hg hf
  go_enter Tryz.func174, Tryz.ntmps174
  go_wp2_with fail
  refine HM.out.mono ?_
  rintro e' w5 ⟨b, j', rfl, h1, h2, h3⟩
  go_wp2
  go_ret
  exact ⟨_, _, rfl, h1, h2, HF.out.trans h3⟩
set_option maxRecDepth 100000 in
set_option maxHeartbeats 1600000 in
theorem build_87 (hl : ps.length < 60) (hf : FnP w (.func (.func fl) #[] cl) f) (hg : FnP w (.func (.func fr) #[] cr) g) (h : FP B M s t wh opn deep ps wvs aw cw w) :
    Calls Tryz.prog 174 #[.pointer (some ⟨B, 5, none⟩), .int .u8 87, .func (.func fl) #[] cl, .func (.func fr) #[] cr] w (MakePost B M s t wh opn deep (bld 87 f g ps) wvs aw cw w) := by
  have hmk : (Instr.makeMap 302 none).run Tryz.prog w = .ok (.map (some w.heap.size)) (w.alloc (.map #[] 0)) := by simp [Instr.makeMap, Result.andThen]
  have m0 : MapAt (w.alloc (.map #[] 0)) w.heap.size [] := heap_alloc_new w (.map #[] 0)
  obtain ⟨W1, r1, m1, x1⟩ := put_map9 m0 33 194 (by simp)
  change (Instr.mapUpdate 302 (.map (some w.heap.size)) (.int .u8 33) (.func (.func 194) #[] #[])).run Tryz.prog (w.alloc (.map #[] 0)) = .ok () W1 at r1
  obtain ⟨W2, r2, m2, x2⟩ := put_map9 m1 38 195 (by simp)
  change (Instr.mapUpdate 302 (.map (some w.heap.size)) (.int .u8 38) (.func (.func 195) #[] #[])).run Tryz.prog W1 = .ok () W2 at r2
  obtain ⟨W3, r3, m3, x3⟩ := put_map9 m2 124 196 (by simp)
  change (Instr.mapUpdate 302 (.map (some w.heap.size)) (.int .u8 124) (.func (.func 196) #[] #[])).run Tryz.prog W2 = .ok () W3 at r3
  obtain ⟨W4, r4, m4, x4⟩ := put_map9 m3 88 197 (by simp)
  change (Instr.mapUpdate 302 (.map (some w.heap.size)) (.int .u8 88) (.func (.func 197) #[] #[])).run Tryz.prog W3 = .ok () W4 at r4
  obtain ⟨W5, r5, m5, x5⟩ := put_map9 m4 70 198 (by simp)
  change (Instr.mapUpdate 302 (.map (some w.heap.size)) (.int .u8 70) (.func (.func 198) #[] #[])).run Tryz.prog W4 = .ok () W5 at r5
  obtain ⟨W6, r6, m6, x6⟩ := put_map9 m5 71 199 (by simp)
  change (Instr.mapUpdate 302 (.map (some w.heap.size)) (.int .u8 71) (.func (.func 199) #[] #[])).run Tryz.prog W5 = .ok () W6 at r6
  obtain ⟨W7, r7, m7, x7⟩ := put_map9 m6 85 200 (by simp)
  change (Instr.mapUpdate 302 (.map (some w.heap.size)) (.int .u8 85) (.func (.func 200) #[] #[])).run Tryz.prog W6 = .ok () W7 at r7
  obtain ⟨W8, r8, m8, x8⟩ := put_map9 m7 82 201 (by simp)
  change (Instr.mapUpdate 302 (.map (some w.heap.size)) (.int .u8 82) (.func (.func 201) #[] #[])).run Tryz.prog W7 = .ok () W8 at r8
  obtain ⟨W9, r9, m9, x9⟩ := put_map9 m8 87 202 (by simp)
  change (Instr.mapUpdate 302 (.map (some w.heap.size)) (.int .u8 87) (.func (.func 202) #[] #[])).run Tryz.prog W8 = .ok () W9 at r9
  have hB : Below w.heap.size w W9 := ((Below.refl _ w).alloc (Nat.le_refl _) _).trans (((((((((x1.trans x2).trans x3).trans x4).trans x5).trans x6).trans x7).trans x8).trans x9).below (Nat.le_refl _) (by simp))
  have kp := KP.of_below hB
  have HM : Put (_) := ⟨unless_mk hl (hf.kp kp) (hg.kp kp) (h.below hB)⟩
  have HF : Put (Fr B w W9) := ⟨Fr.of_below hB (Nat.le_of_lt h.lt)⟩
  have gg := get_map9 m9 87 202 (by simp) (by simp)
  change (Instr.lookup 302 (.map (some w.heap.size)) (.int .u8 87) false).run Tryz.prog W9 = .ok (.func (.func 202) #[] #[]) W9 at gg
  have en := enters_of Tryz.func202 (by kernel_rfl) rfl
  clear m0 m1 m2 m3 m4 m5 m6 m7 m8 m9 x1 x2 x3 x4 x5 x6 x7 x8 x9 hB kp h hg hf
  go_enter Tryz.func174, Tryz.ntmps174
  go_wp2_with fail
  refine HM.out.mono ?_
  rintro e' w5 ⟨b, j', rfl, h1, h2, h3⟩
  go_wp2
  go_ret
  exact ⟨_, _, rfl, h1, h2, HF.out.trans h3⟩
/-- Whatever sign. -/
theorem build_any (o : Nat) (lv : Value) (hl : ps.length < 60) (ho : unS o ∨ binS o ∧ FnP w lv f) (hg : FnP w (.func (.func fr) #[] cr) g) (h : FP B M s t wh opn deep ps wvs aw cw w) :
    Calls Tryz.prog 174 #[.pointer (some ⟨B, 5, none⟩), .int .u8 (o : Nat), lv, .func (.func fr) #[] cr] w (MakePost B M s t wh opn deep (bld o f g ps) wvs aw cw w) := by
  rcases ho with ho | ⟨ho, hf⟩
  · rw [bld_un ho f (fun _ _ => true)]
    rcases ho with rfl | rfl | rfl | rfl
    · exact build_33 lv hg h
    · exact build_88 lv hl hg h
    · exact build_70 lv hl hg h
    · exact build_71 lv hl hg h
  · obtain ⟨fn, caps, rfl, _⟩ := hf.form
    rcases ho with rfl | rfl | rfl | rfl | rfl
    · exact build_38 hf hg h
    · exact build_124 hf hg h
    · exact build_85 hl hf hg h
    · exact build_82 hl hf hg h
    · exact build_87 hl hf hg h
end
end Go.Proofs.YtgoebckimmofoaaGreatDoor

/- What waits: whether it waits for some signs, and what ends. Our own text. -/
namespace Go.Proofs.YtgoebckimmofoaaGreatDoor
open Go.RowKit Go.Lib
theorem all2_snoc {α β : Type} {R : α → β → Prop} {b : β} : ∀ {l : List α} {m : List β}, All2 R l (m ++ [b]) → ∃ l' a, l = l' ++ [a] ∧ All2 R l' m ∧ R a b
  | [], [], h => h.elim
  | [], _ :: _, h => h.elim
  | [a], [], h => ⟨[], a, rfl, All2.nil, h.1⟩
  | _ :: _ :: _, [], h => h.2.elim
  | a :: l, c :: m, h => by
    obtain ⟨l', a', h1, h2, h3⟩ := all2_snoc (l := l) (m := m) h.2
    exact ⟨a :: l', a', by rw [h1]; rfl, All2.cons h.1 h2, h3⟩
theorem all2_nil {α β : Type} {R : α → β → Prop} : ∀ {l : List α}, All2 R l ([] : List β) → l = []
  | [], _ => rfl
  | _ :: _, h => h.elim
section
variable {B M : Nat} {s : ByteArray} {t : T} {wh : Value} {opn deep : Nat} {pvs : List PtV} {wvs : List WV} {j : FJ} {w : World}
set_option maxRecDepth 100000 in
set_option maxHeartbeats 1600000 in
theorem waits_nil (l : ByteArray) (h : FRv B M s t wh opn deep pvs [] j w) :
    Calls Tryz.prog 142 #[.pointer (some ⟨B, 0, none⟩), .string l] w fun e w' => e = .returned (.bool false) ∧ w' = w := by
  have c7 := h.c7
  simp only [List.length_nil] at c7
  clear h
  go_enter Tryz.func142, Tryz.ntmps142
  go_wp2
  go_ret
  exact ⟨rfl, rfl⟩
set_option maxRecDepth 100000 in
set_option maxHeartbeats 1600000 in
theorem waits_cons (l : ByteArray) (x : WV) (_hx : x.o < 256) (hl : wvs.length ≤ 100) (h : FRv B M s t wh opn deep pvs (wvs ++ [x]) j w) :
    Calls Tryz.prog 142 #[.pointer (some ⟨B, 0, none⟩), .string l] w fun e w' => e = .returned (.bool (inS l x.o)) ∧ w' = w := by
  have c7 := h.c7
  obtain ⟨g, hg, k0, k1, hcw⟩ := h.last
  rw [hg, List.length_append, List.length_singleton] at c7
  have HI : Put (∀ w, Calls Tryz.prog 171 #[.string l, .int .u8 (x.o : Nat)] w fun e w' => e = .returned (.int .i64 (indexByte l.data.toList x.o.toUInt8)) ∧ w' = w) := ⟨fun w => by
    have := IndexByte_any l ((x.o : Nat) : Int) w
    simpa using this⟩
  have HS : Put (inS l x.o = decide (0 ≤ indexByte l.data.toList x.o.toUInt8)) := ⟨by
    unfold inS
    by_cases h : x.o.toUInt8 ∈ l.data.toList
    · rw [decide_eq_true h, decide_eq_true]
      have : ¬ indexByte l.data.toList x.o.toUInt8 < 0 := fun hn => (indexByte_mem (l := l.data.toList) (c := x.o.toUInt8)).1 hn h
      omega
    · rw [decide_eq_false h, decide_eq_false]
      have := (indexByte_mem (l := l.data.toList) (c := x.o.toUInt8)).2 h
      omega⟩
  rw [HS.out]
  generalize indexByte l.data.toList x.o.toUInt8 = ix at *
  clear h HS hg
  generalize x.o = o at *
  generalize wvs.length = n at *
  have i0 : ((n + 1 : Nat) : Int) - 1 = (n : Int) := by omega
  have i1 : (0 : Int) ≤ (n : Int) := by omega
  go_enter Tryz.func142, Tryz.ntmps142
  go_wp2_with fail
  refine (HI.out _).mono ?_
  rintro e w' ⟨rfl, rfl⟩
  go_wp2
  go_ret
  exact ⟨rfl, rfl⟩
end
end Go.Proofs.YtgoebckimmofoaaGreatDoor

/- The innermost signs get their right side. Our own text. -/
namespace Go.Proofs.YtgoebckimmofoaaGreatDoor
open Go.RowKit Go.Lib
/-- Signs that make something. -/
def Sgn (l : ByteArray) : Prop := ∀ o, o < 256 → inS l o = true → unS o ∨ binS o
/-- The reader, its parts and what waits, with what they mean. -/
def FC (B M : Nat) (s : ByteArray) (t : T) (wh : Value) (opn deep : Nat) (ps : List Pt) (st : List (Nat × G)) (w : World) : Prop :=
  ∃ wvs aw cw, FP B M s t wh opn deep ps wvs aw cw w ∧ All2 (WaitOk w) wvs st.reverse
def EndPost (B M : Nat) (s : ByteArray) (t : T) (wh : Value) (opn deep : Nat) (r : G × List (Nat × G) × List Pt) (w : World) (e : Ending) (w' : World) : Prop :=
  ∃ (f : Nat) (a : Array Value), e = .returned (.func (.func f) #[] a) ∧ FnP w' (.func (.func f) #[] a) r.1 ∧ FC B M s t wh opn deep r.2.2 r.2.1 w' ∧ Fr B w w'
section
variable {B M : Nat} {s : ByteArray} {t : T} {wh : Value} {opn deep : Nat} {ps : List Pt} {st : List (Nat × G)} {w : World} {fr : Nat} {cr : Array Value} {g : G}
theorem WaitOk.all {w w' : World} {l : List WV} {m : List (Nat × G)} (h : All2 (WaitOk w) l m) (k : KP w w') : All2 (WaitOk w') l m := h.mono (fun _ _ h => h.kp k)
theorem FP.popW {wvs : List WV} {x : WV} {aw : Option Addr} {cw : Nat} (h : FP B M s t wh opn deep ps (wvs ++ [x]) aw cw w) : w.frozen? ⟨B, 7, none⟩ = false ∧ wvs.length + 1 ≤ cw ∧ FP B M s t wh opn deep ps wvs aw cw (w.setCell ⟨B, 7, none⟩ (.slice aw wvs.length cw)) ∧ Fr B w (w.setCell ⟨B, 7, none⟩ (.slice aw wvs.length cw)) := by
  obtain ⟨pvs, ap, cp, h1, h2⟩ := h
  obtain ⟨g, hg, _, _, hc⟩ := h1.last
  exact ⟨h1.free 7, hc, ⟨pvs, ap, cp, h1.pop, h2.mono (fun _ _ h => h.kp (h1.frSet 7 _).k)⟩, h1.frSet 7 _⟩
set_option maxRecDepth 100000 in
set_option maxHeartbeats 3200000 in
theorem end_walk (l : ByteArray) (hl : Sgn l) (hp : ps.length + st.length ≤ 60) (hg : FnP w (.func (.func fr) #[] cr) g) (h : FC B M s t wh opn deep ps st w) :
    Calls Tryz.prog 141 #[.pointer (some ⟨B, 0, none⟩), .string l, .func (.func fr) #[] cr] w (EndPost B M s t wh opn deep (endP l st g ps) w) := by
  obtain ⟨R, hR⟩ : ∃ R, R = endP l st g ps := ⟨_, rfl⟩
  rw [← hR]
  have H0 : Put (R = endP l st g ps) := ⟨hR⟩
  have HL : Put (Sgn l) := ⟨hl⟩
  have HG : Put (_) := ⟨hg⟩
  have HC : Put (_) := ⟨h⟩
  clear hR hl hg h
  go_enter Tryz.func141, Tryz.ntmps141
  go_wp2_with fail
  go_loopg [2] st.length (fun gk iv wr => ∃ (fr : Nat) (cr : Array Value) (st' : List (Nat × G)) (ps' : List Pt) (g' : G), iv = .func (.func fr) #[] cr ∧ gk = st'.length ∧ ps'.length + st'.length ≤ 60 ∧ Put (R = endP l st' g' ps') ∧ Put (FnP wr (.func (.func fr) #[] cr) g') ∧ Put (FC B M s t wh opn deep ps' st' wr) ∧ Put (Fr B w wr))
  case atStart => exact ⟨fr, cr, st, ps, g, rfl, rfl, hp, H0, HG, HC, ⟨Fr.refl _ _⟩⟩
  case round =>
    clear H0 HG HC hp
    obtain ⟨f1, c1, st', ps', g', rfl, rfl, hp, H0, HG, HC, HF⟩ := hrel
    obtain ⟨wvs, aw, cw, hfp, hall⟩ := HC.out
    match st', hp, H0, HC, hall with
    | [], hp, H0, HC, hall =>
      obtain rfl := all2_nil hall
      obtain ⟨pvs, ap, cp, hfr, _⟩ := hfp
      have HW : Put (_) := ⟨waits_nil l hfr⟩
      clear hfr hall
      have FIN : Put (EndPost B M s t wh opn deep R w (.returned (.func (.func f1) #[] c1)) wr) := ⟨⟨_, _, rfl, by rw [H0.out]; exact HG.out, by rw [H0.out]; exact HC.out, HF.out⟩⟩
      clear H0 HC HG HF
      go_wp2_with fail
      refine HW.out.mono ?_
      rintro e w' ⟨rfl, rfl⟩
      go_wp2
      go_ret
      exact FIN.out
    | e :: st'', hp, H0, HC, hall =>
      have hall' : All2 (WaitOk wr) wvs (st''.reverse ++ [e]) := by simpa using hall
      obtain ⟨wvs', x, rfl, ha1, hx⟩ := all2_snoc hall'
      have hwl : wvs'.length = st''.length := by have := ha1.length; simpa using this
      have hx256 : x.o < 256 := by rw [hx.1]; exact hx.2.1
      obtain ⟨pvs, ap, cp, hfr, hpo⟩ := hfp
      simp only [List.length_cons] at hp
      have HW : Put (_) := ⟨waits_cons l x hx256 (by omega) hfr⟩
      rw [hx.1] at HW
      cases hin : inS l e.1 with
      | false =>
        rw [hin] at HW
        have FIN : Put (EndPost B M s t wh opn deep R w (.returned (.func (.func f1) #[] c1)) wr) := ⟨⟨_, _, rfl, by rw [H0.out]; simp only [endP, hin]; exact HG.out, by rw [H0.out]; simp only [endP, hin]; exact HC.out, HF.out⟩⟩
        clear hfr hall hall' ha1 hx hpo H0 HC HG HF
        go_wp2_with fail
        refine HW.out.mono ?_
        rintro e w' ⟨rfl, rfl⟩
        go_wp2
        go_ret
        exact FIN.out
      | true =>
        rw [hin] at HW
        obtain ⟨gr, hgr, -, -, -⟩ := hfr.last
        have hgr' : aw = some ⟨gr, 0, none⟩ := hgr
        subst hgr'
        clear hgr
        have HS : Put (∀ (ps : List Pt) (W : World), FP B M s t wh opn deep ps (wvs' ++ [x]) (some ⟨gr, 0, none⟩) cw W → W.cell? ⟨B, 7, none⟩ = some (.slice (some ⟨gr, 0, none⟩) (wvs'.length + 1) cw) ∧ W.cell? ⟨gr, wvs'.length * 2, none⟩ = some (.int .u8 (x.o : Nat)) ∧ W.cell? ⟨gr, wvs'.length * 2 + 1, none⟩ = some x.v) := ⟨fun ps W h => by
          obtain ⟨pvs, ap, cp, h1, _⟩ := h
          obtain ⟨g, hg, h2, h3, _⟩ := h1.last
          obtain rfl : gr = g := by simpa using hg
          have := h1.c7
          rw [List.length_append] at this
          exact ⟨this, h2, h3⟩⟩
        obtain ⟨d7, k0, k1⟩ := HS.out ps' wr ⟨pvs, ap, cp, hfr, hpo⟩
        obtain ⟨f2, a2, hfe, _⟩ := HG.out.form
        have hdr : Below wr.heap.size wr wr.drew := (Below.refl _ _).drew
        have HMd : Put (_) := ⟨build_any (f := e.2) (w := wr.drew) x.o x.v (by omega) (by
          rcases HL.out e.1 hx.2.1 hin with hu | hb
          · left; rw [hx.1]; exact hu
          · right; rw [hx.1]; exact ⟨hb, (hx.2.2.2 hb).kp (KP.of_below hdr)⟩) (HG.out.kp (KP.of_below hdr)) (FP.below ⟨pvs, ap, cp, hfr, hpo⟩ hdr)⟩
        have HX : Put (_ ∧ _) := ⟨ha1, hx⟩
        have HR : Put (R = endP l st'' (bld e.1 e.2 g' ps').1 (bld e.1 e.2 g' ps').2) := ⟨by rw [H0.out]; simp only [endP, hin, if_true]⟩
        rw [hx.1] at HMd
        rw [hx.1] at k0
        rw [hx.1] at HS
        have hbl : (bld e.1 e.2 g' ps').2.length ≤ ps'.length + 1 := by
          have : (bld e.1 e.2 g' ps').2.length = ps'.length + wt e.1 := bld_len (by
            rcases HL.out e.1 hx.2.1 hin with hu | hb
            · have hu' : e.1 = 33 ∨ e.1 = 88 ∨ e.1 = 70 ∨ e.1 = 71 := hu
              omega
            · have hb' : e.1 = 38 ∨ e.1 = 124 ∨ e.1 = 85 ∨ e.1 = 82 ∨ e.1 = 87 := hb
              omega) _ _ _
          have : wt e.1 ≤ 1 := by unfold wt; split <;> omega
          omega
        have HBW : Put (B ≤ wr.heap.size) := ⟨Nat.le_of_lt hfr.lt⟩
        clear hfr hall hall' ha1 hx hpo H0 HC HG hfe hdr
        generalize x.v = xv at *
        generalize e.1 = eo at *
        obtain ⟨n, hn⟩ : ∃ n, n = wvs'.length := ⟨_, rfl⟩
        have HNL : Put (wvs'.length = n) := ⟨hn.symm⟩
        rw [← hn] at d7 k0 k1 HS hwl
        clear hn
        have HWL : Put (n = st''.length) := ⟨hwl⟩
        have hn60 : n ≤ 60 := by omega
        clear hwl
        obtain ⟨L, hL⟩ : ∃ L, L = n + 1 := ⟨_, rfl⟩
        rw [← hL] at d7 HS
        have HLn : Put (L = n + 1) := ⟨hL⟩
        have i0 : (L : Int) - 1 = (n : Int) := by omega
        have i1 : (0 : Int) ≤ (n : Int) := by omega
        have i2 : (n : Int) < (L : Int) := by omega
        have i3 : (n : Int) ≤ (L : Int) := by omega
        clear hL
        go_wp2_with fail
        refine HW.out.mono ?_
        rintro e' wr ⟨rfl, rfl⟩
        clear HW
        go_wp2_with fail
        go_region_held3 (fun w' => w'.cell? ⟨B, 7, none⟩ = some (.slice (some ⟨gr, 0, none⟩) L cw) ∧ w'.cell? ⟨gr, n * 2, none⟩ = some (.int .u8 (eo : Nat)) ∧ w'.cell? ⟨gr, n * 2 + 1, none⟩ = some xv)
          (first | exact HS3.out | exact ⟨d7, k0, k1⟩ | go_keep)
          ((refine HMd.out.mono ?_; rintro e' w3 ⟨fn3, ca3, rfl, hfn3, hfp3, hfr3⟩; have HS3 : Put (w3.cell? ⟨B, 7, none⟩ = some (.slice (some ⟨gr, 0, none⟩) L cw) ∧ w3.cell? ⟨gr, n * 2, none⟩ = some (.int .u8 (eo : Nat)) ∧ w3.cell? ⟨gr, n * 2 + 1, none⟩ = some xv) := ⟨HS.out _ _ hfp3⟩))
        all_goals
          obtain ⟨f7, hcw, hfp4, hfr4⟩ := hfp3.popW
          have d7' := HS3.out.1
          rw [HNL.out] at hcw hfp4 hfr4
          have i4 : (n : Int) ≤ (cw : Int) := by omega
          have FIN : Put (Put (FnP (w3.setCell ⟨B, 7, none⟩ (.slice (some ⟨gr, 0, none⟩) n cw)) (.func (.func fn3) #[] ca3) (bld eo e.2 g' ps').1) ∧ Put (FC B M s t wh opn deep (bld eo e.2 g' ps').2 st'' (w3.setCell ⟨B, 7, none⟩ (.slice (some ⟨gr, 0, none⟩) n cw))) ∧ Put (Fr B w (w3.setCell ⟨B, 7, none⟩ (.slice (some ⟨gr, 0, none⟩) n cw)))) := ⟨⟨hfn3.kp hfr4.k⟩, ⟨⟨wvs', _, _, hfp4, WaitOk.all HX.out.1 (((KP.of_below ((Below.refl _ _).drew)).trans hfr3.k).trans hfr4.k)⟩⟩, ⟨HF.out.trans (((Fr.of_below ((Below.refl _ _).drew) HBW.out).trans hfr3).trans hfr4)⟩⟩
          clear hfp3 hfp4 hfr4 hfn3 hfr3 HS3
          go_wp2
          go_roundg st''.length
          case measure => simp
          case rel => exact ⟨fn3, ca3, st'', (bld eo e.2 g' ps').2, (bld eo e.2 g' ps').1, rfl, rfl, by omega, HR, FIN.out.1, FIN.out.2.1, FIN.out.2.2⟩
end
end Go.Proofs.YtgoebckimmofoaaGreatDoor

/- Brackets, and what has no formula within it. Our own text. -/
namespace Go.Proofs.YtgoebckimmofoaaGreatDoor
open Go.RowKit Go.Lib
section
variable {B M : Nat} {s : ByteArray} {t t' : T} {wh : Value} {opn deep : Nat} {ps : List Pt} {st : List (Nat × G)} {w w' : World} {g : G}
/-- What a step of the reader alone leaves, and the whole of it. -/
theorem FC.step (h : FC B M s t wh opn deep ps st w) : ∃ rest, RG B M 204 rest s t w ∧ ∀ t' w', RG B M 204 rest s t' w' → Ex B w w' → FC B M s t' wh opn deep ps st w' ∧ Fr B w w' := by
  obtain ⟨wvs, aw, cw, ⟨pvs, ap, cp, hfr, hpo⟩, hall⟩ := h
  refine ⟨_, hfr.g, fun t' w' g e => ?_⟩
  have hF := hfr.fr e
  exact ⟨⟨wvs, aw, cw, ⟨pvs, ap, cp, hfr.up g e, hpo.mono (fun _ _ h => h.kp hF.k)⟩, WaitOk.all hall hF.k⟩, hF⟩
theorem FC.lt (h : FC B M s t wh opn deep ps st w) : B < w.heap.size := by
  obtain ⟨wvs, aw, cw, h1, _⟩ := h
  exact h1.lt
theorem FC.below (h : FC B M s t wh opn deep ps st w) (hb : Below w.heap.size w w') : FC B M s t wh opn deep ps st w' := by
  obtain ⟨wvs, aw, cw, h1, h2⟩ := h
  exact ⟨wvs, aw, cw, h1.below hb, WaitOk.all h2 (KP.of_below hb)⟩
theorem plain1_any {f : Fn} {a : Array Value} {R : Nat → Bool} (bc x b : Nat) (hx : x < 64) (W : World) (hW : KP w W) (h0 : 0 < W.heap.size) (hT : Tab W) (hc : FnK 0 w (.func f #[] a) (fun y => .bool (R y))) (b1 : W.heap[bc]? = some (.cells #[.func f #[] a] 217 (0, 0))) :
    Calls Tryz.prog 173 #[.agg #[.int .u8 (x : Nat), .int .u8 (b : Nat)], .pointer (some ⟨bc, 0, none⟩)] W fun e W' => e = .returned (.bool (R x)) ∧ Below W.heap.size W W' := by
  have c1 := box_cell b1
  have l1 := lt_of_block b1
  have HA : Put (Below W.heap.size W (W.alloc (.cells #[.int .u8 (x : Nat), .int .u8 (b : Nat)] 157))) := ⟨(Below.refl _ _).alloc (Nat.le_refl _) _⟩
  obtain ⟨fn, caps, e, en, hk⟩ := hc
  obtain ⟨rfl, rfl⟩ : f = .func fn ∧ a = caps := by simpa using e
  have HG : Put (_) := ⟨hk (W.alloc (.cells #[.int .u8 (x : Nat), .int .u8 (b : Nat)] 157)) ((hW.trans (KP.of_below HA.out)) 0) (by simp) (hT.below HA.out h0) x hx⟩
  clear hW hT hk b1 e
  go_enter Tryz.func173, Tryz.ntmps173
  go_wp2_with fail
  refine HG.out.mono ?_
  rintro e w1 ⟨rfl, hb1⟩
  go_wp2
  go_ret
  exact ⟨rfl, HA.out.trans (hb1.mono HA.out.size)⟩
set_option maxRecDepth 100000 in
set_option maxHeartbeats 1600000 in
theorem plain_T {k : Nat} (hs : s.size ≤ 120) (h : FC B M s t wh opn deep ps st w) (hn : num? s t.at_ 84 0 0 = some k) :
    Calls Tryz.prog 140 #[.pointer (some ⟨B, 0, none⟩)] w fun e w' => e = .returned (.tuple #[.func (.func 172) #[] #[], .bool true]) ∧ FC B M s t.adv wh opn deep ps st w' ∧ Fr B w w' := by
  obtain ⟨rest, hg, hup⟩ := h.step
  have HT : Put (_) := ⟨take_yes0 84 k hs (by omega) hg hn⟩
  have HU : Put (_) := ⟨hup⟩
  clear h hg hup hn
  go_enter Tryz.func140, Tryz.ntmps140
  go_wp2_with fail
  refine HT.out.mono ?_
  rintro e w1 ⟨rfl, hg1, hx1⟩
  have FIN : Put (_ ∧ _) := ⟨HU.out _ _ hg1 hx1⟩
  clear hg1 hx1
  go_wp2
  go_ret2
  exact ⟨rfl, FIN.out⟩
set_option maxRecDepth 100000 in
set_option maxHeartbeats 1600000 in
theorem plain_yes (hs : s.size ≤ 120) (hat : t.at_ ≤ s.size) (h : FC B M s t wh opn deep ps st w) (hn : num? s t.at_ 84 0 0 = none) (hp : pCond s t = (true, t')) :
    Calls Tryz.prog 140 #[.pointer (some ⟨B, 0, none⟩)] w fun e w' => (∃ f a, e = .returned (.tuple #[.func (.func f) #[] a, .bool true]) ∧ FnP w' (.func (.func f) #[] a) (fun x _ => cdP s (cdOf s t.at_) x)) ∧ FC B M s t' wh opn deep ps st w' ∧ Fr B w w' := by
  have hmf : ∀ (fn : Fn) (first cap : Array Value) (w : World), (Instr.makeFunc fn first cap).run Tryz.prog w = .ok (.func fn first cap) w := fun _ _ _ _ => rfl
  obtain ⟨rest, hg, hup⟩ := h.step
  have HT : Put (_) := ⟨take_no0 84 hs hat (by omega) hg hn⟩
  have HU : Put (_) := ⟨hup⟩
  clear h hg hup hn
  go_enter Tryz.func140, Tryz.ntmps140
  go_wp2_with fail
  refine HT.out.mono ?_
  rintro e w1 ⟨rfl, hg1, hx1⟩
  clear HT
  have HC : Put (_) := ⟨cond_yes soft_FR hs hat hg1 hp⟩
  have HX1 : Put (_) := ⟨hx1⟩
  clear hg1 hx1
  go_wp2_with fail
  refine HC.out.mono ?_
  rintro e w2 ⟨⟨f2, a2, rfl, hf2⟩, hg2, hx2⟩
  have FIN : Put (_ ∧ _) := ⟨HU.out _ _ hg2 (HX1.out.trans hx2)⟩
  have HF2 : Put (_) := ⟨hf2⟩
  clear hg2 hx2 hf2 HC
  have hb : Below w2.heap.size w2 (w2.alloc (.cells #[.func f2 #[] a2] 217)) := (Below.refl _ _).alloc (Nat.le_refl _) _
  have HB : Put (_) := ⟨hb⟩
  clear hb
  go_wp2
  go_ret2
  refine ⟨⟨_, _, rfl, ⟨_, _, rfl, enters_of Tryz.func173 (by kernel_rfl) rfl, fun W hW h0 hT x b hx hb => ?_⟩⟩, FIN.out.1.below HB.out, FIN.out.2.trans (Fr.of_below HB.out (Nat.le_of_lt FIN.out.1.lt))⟩
  exact plain1_any (R := fun y => cdP s (cdOf s t.at_) y) w2.heap.size x b hx W ((KP.of_below HB.out).trans hW) h0 hT HF2.out (hW.box (heap_alloc_new w2 (.cells #[.func f2 #[] a2] 217)))
set_option maxRecDepth 100000 in
set_option maxHeartbeats 1600000 in
theorem plain_no (hs : s.size ≤ 120) (hat : t.at_ ≤ s.size) (h : FC B M s t wh opn deep ps st w) (hn : num? s t.at_ 84 0 0 = none) (hp : pCond s t = (false, t')) :
    Calls Tryz.prog 140 #[.pointer (some ⟨B, 0, none⟩)] w fun e w' => (∃ f a, e = .returned (.tuple #[.func (.func f) #[] a, .bool false])) ∧ FC B M s t' wh opn deep ps st w' ∧ Fr B w w' := by
  have hmf : ∀ (fn : Fn) (first cap : Array Value) (w : World), (Instr.makeFunc fn first cap).run Tryz.prog w = .ok (.func fn first cap) w := fun _ _ _ _ => rfl
  obtain ⟨rest, hg, hup⟩ := h.step
  have HT : Put (_) := ⟨take_no0 84 hs hat (by omega) hg hn⟩
  have HU : Put (_) := ⟨hup⟩
  clear h hg hup hn
  go_enter Tryz.func140, Tryz.ntmps140
  go_wp2_with fail
  refine HT.out.mono ?_
  rintro e w1 ⟨rfl, hg1, hx1⟩
  clear HT
  have HC : Put (_) := ⟨cond_no hs hat hg1 hp⟩
  have HX1 : Put (_) := ⟨hx1⟩
  clear hg1 hx1
  go_wp2_with fail
  refine HC.out.mono ?_
  rintro e w2 ⟨rfl, hg2, hx2⟩
  have FIN : Put (_ ∧ _) := ⟨HU.out _ _ hg2 (HX1.out.trans hx2)⟩
  clear hg2 hx2 HC
  have hb : Below w2.heap.size w2 (w2.alloc (.cells #[.nilFunc] 217)) := (Below.refl _ _).alloc (Nat.le_refl _) _
  have HB : Put (_) := ⟨hb⟩
  clear hb
  go_wp2
  go_ret2
  exact ⟨⟨_, _, rfl⟩, FIN.out.1.below HB.out, FIN.out.2.trans (Fr.of_below HB.out (Nat.le_of_lt FIN.out.1.lt))⟩
end
end Go.Proofs.YtgoebckimmofoaaGreatDoor
