import Derived.Test.YtgoebckimmofoaaGreatDoorRows
import Derived.WalkKit
import Derived.WalkSpells
import Derived.WalkLawsBesides
import Derived.Deep.QuietTactic
import Derived.BigQuiet
import Derived.RegionTactic
import Derived.Lib.TrailingZeros
import Derived.Laws.Bits64b
import Derived.Deep.LoopGhost
import Derived.Deep.RegionLaw
import Derived.Deep.RegionHeld3
import Derived.Stop.RegionWithIn
import Derived.Shelf.RegionOpen
import Derived.Test.YtgoebckimmofoaaGreatDoorM1
import Derived.Test.YtgoebckimmofoaaGreatDoorM2
import Derived.Test.YtgoebckimmofoaaGreatDoorM11
import Derived.Test.YtgoebckimmofoaaGreatDoorM17
import Derived.Test.YtgoebckimmofoaaGreatDoorM18
/- The document's reader of formulas: one. Our own text. -/
namespace Go.Proofs.YtgoebckimmofoaaGreatDoor
open Go.RowKit Go.Lib
/-- What one is where no sign stands ahead of it. -/
def tailU (s : ByteArray) (n : Nat) (x : FSt) : Fm × FSt :=
  if isC s x.q 84 then (.tt, x.adv)
  else if isC s x.q 40 then
    let r := pF s n 3 x.adv.in
    (r.1, { r.2 with q := qMust s r.2.q 41, opn := x.opn })
  else match qCond s x.q with
    | (some c, q') => (.cond c, { x with q := q' })
    | (none, q') => (.tt, { x with q := q' })
def FSt.up (x : FSt) (c : Nat) : FSt := if c = 33 then x.adv else x.adv.hvy
def tryU (s : ByteArray) (n : Nat) (x : FSt) : List Nat → Fm × FSt
  | [] => tailU s n x
  | c :: l => if isC s x.q c then (.un c (pF s n 0 (x.up c)).1, (pF s n 0 (x.up c)).2) else tryU s n x l
section
variable {B P : Nat} {s : ByteArray} {x : FSt} {w : World}
theorem close_un (og : Nat) {us : List Value} {r2 : Fm × FSt} {w4 w5 : World} (hb4 : FB B P s r2.2 w4) (hx : Ex2 B P w w4) (hBw : B < w.heap.size) (hPw : P < w.heap.size)
    (h2 : ∀ i, r2.2.q = .ok i → NV (w.heap.size + 1) s w4 r2.1 us) (hat : At w.heap.size w4 w5) (O1 : Obj) :
    FPost B P s (.un og r2.1, r2.2) w (.returned (.agg #[.int .u8 og, .int .i64 0, .int .i64 0, .int .i64 0, .int .i64 0, .int .i64 0, .int .i64 0, .int .u8 0, .slice (some ⟨w4.heap.size + 1, 0, none⟩) 1 1])) ((w5.alloc O1).alloc (.cells us.toArray 90)) := by
  have hsz : (w5.alloc O1).heap.size = w4.heap.size + 1 := by rw [World.size_alloc, hat.size]
  have hkeep : ∀ k, w.heap.size + 1 ≤ k → k < w4.heap.size → ((w5.alloc O1).alloc (.cells us.toArray 90)).heap[k]? = w4.heap[k]? := fun k h1 h2 => by
    rw [Below.heap_alloc _ _ _ (by rw [hsz]; omega), Below.heap_alloc _ _ _ (by rw [hat.size]; omega), hat.block k (by omega)]
  have hnew := heap_alloc_new (w5.alloc O1) (.cells us.toArray 90)
  rw [hsz] at hnew
  have hsx := hx.size
  exact ⟨⟨_, _, _, _, _, _, _, _, _, _, _, rfl, fun i hi => ⟨w4.heap.size + 1, 1, us, rfl, by omega, hnew, (h2 i hi).keep (by omega) hkeep⟩⟩, hb4.alloc2 hat hBw hPw _ _, (hx.at hat (Nat.le_refl _)).trans ((Ex2.ofAlloc _ _).trans (Ex2.ofAlloc _ _))⟩
theorem FB.open0 (h : FB B P s x w) (hg : x.opn + 1 ≤ 1000 + x.q.top s) (hd : ¬ (10 < x.opn + 1 ∧ x.deep < 0)) : FB B P s x.in (w.setCell ⟨P, 2, none⟩ (.int .i64 ((x.opn : Int) + 1))) := by
  have e : x.in = { x with opn := x.opn + 1 } := by unfold FSt.in; rw [if_neg hd]
  rw [e]
  exact ⟨h.r.set_other (by exact h.ne.symm) _, heap_setCell_same _ P 2 #[.pointer (some ⟨B, 0, none⟩), .int .i64 x.deep, .int .i64 x.opn, .int .i64 x.wgt] 98 _ h.p, h.ne, hg, h.g⟩
theorem FB.open1 (h : FB B P s x w) (hg : x.opn + 1 ≤ 1000 + x.q.top s) (hd : 10 < x.opn + 1 ∧ x.deep < 0) : FB B P s x.in ((w.setCell ⟨P, 2, none⟩ (.int .i64 ((x.opn : Int) + 1))).setCell ⟨P, 1, none⟩ (.int .i64 ((x.q.pos : Int) - 1))) := by
  have e : x.in = { x with opn := x.opn + 1, deep := (x.q.pos : Int) - 1 } := by unfold FSt.in; rw [if_pos hd]
  rw [e]
  exact ⟨(h.r.set_other (by exact h.ne.symm) _).set_other (by exact h.ne.symm) _, heap_setCell_same _ P 1 #[.pointer (some ⟨B, 0, none⟩), .int .i64 x.deep, .int .i64 ((x.opn : Int) + 1), .int .i64 x.wgt] 98 _ (heap_setCell_same _ P 2 #[.pointer (some ⟨B, 0, none⟩), .int .i64 x.deep, .int .i64 x.opn, .int .i64 x.wgt] 98 _ h.p), h.ne, hg, h.g⟩
theorem FB.close0 {k : Nat} (h : FB B P s x w) (hg : k ≤ 1000 + x.q.top s) : FB B P s { x with opn := k } (w.setCell ⟨P, 2, none⟩ (.int .i64 (k : Int))) :=
  ⟨h.r.set_other (by exact h.ne.symm) _, heap_setCell_same _ P 2 #[.pointer (some ⟨B, 0, none⟩), .int .i64 x.deep, .int .i64 x.opn, .int .i64 x.wgt] 98 _ h.p, h.ne, hg, h.g⟩
theorem qMust_top {q : Q} {c : Nat} (h : ∀ i, q = .ok i → i ≤ s.size) : q.top s ≤ (qMust s q c).top s := by
  unfold qMust
  cases q with
  | ok i => split <;> simp [Q.adv, Q.fail, Q.top]; exact h i rfl
  | error p => split <;> simp [Q.adv, Q.fail, Q.top]
theorem RS.le {q : Q} (h : RS B s q w) : ∀ i, q = .ok i → i ≤ s.size := by
  rintro i rfl; exact h.1
theorem fCond_none {q q' : Q} (h : qCond s q = (none, q')) : ∃ p, q' = .error p := by
  unfold qCond at h
  split at h
  · next e => cases h; exact qTerm_none e
  · split at h
    · split at h
      · next e => cases h; exact qTerm_none e
      · cases h
    · cases h
      next q1 _ _ => cases q1 <;> simp [Q.fail]
set_option maxRecDepth 100000 in
set_option maxHeartbeats 3200000 in
theorem one_step (n : Nat) (hs : s.size ≤ 120) (IHo : ∀ x w, FB B P s x w → need s 0 x ≤ n → Calls Tryz.prog 175 #[.pointer (some ⟨P, 0, none⟩)] w (FPost B P s (pF s n 0 x) w))
    (IHf : ∀ x w, FB B P s x w → need s 3 x ≤ n → Calls Tryz.prog 65 #[.pointer (some ⟨P, 0, none⟩)] w (FPost B P s (pF s n 3 x) w))
    (hn : need s 0 x ≤ n + 1) (hb : FB B P s x w) :
    Calls Tryz.prog 175 #[.pointer (some ⟨P, 0, none⟩)] w (FPost B P s (pF s (n + 1) 0 x) w) := by
  have HIO : Put (_) := ⟨IHo⟩
  have HIF : Put (_) := ⟨IHf⟩
  have HP : Put (pF s (n + 1) 0 x = tryU s n x [33, 88, 70, 71]) := ⟨pF0 s n x⟩
  have hP := hb.lt
  have hBl := hb.r.lt
  have HX0 : Put (_) := ⟨Ex2.ofAlloc (B := B) (P := P) w zN⟩
  have HB0 : Put (_) := ⟨hb.alloc zN⟩
  have HR0 : Put (_) := ⟨heap_alloc_new w zN⟩
  unfold zN at HX0 HB0 HR0
  clear IHo IHf hb
  go_enter Tryz.func175, Tryz.ntmps175
  go_wp2_with fail
  generalize hw2 : w.alloc (.cells #[.int .u8 0, .int .i64 0, .int .i64 0, .int .i64 0, .int .i64 0, .int .i64 0, .int .i64 0, .int .u8 0, .slice none 0 0] 90) = w2 at *
  have hz2 : w2.heap.size = w.heap.size + 1 := by rw [← hw2]; simp
  clear hw2
  go_loopg [4] 4 (fun gk iv wr => ∃ i : Nat, iv = .int .i64 i ∧ i + gk = 4 ∧ Put (FB B P s x wr) ∧ Put (Ex B w2 wr) ∧ Put (pF s (n + 1) 0 x = tryU s n x ([33, 88, 70, 71].drop i)))
  case atStart => exact ⟨0, rfl, rfl, HB0, ⟨Ex.refl _ _⟩, HP⟩
  case round =>
    clear HP
    obtain ⟨i, rfl, hik, HBr, HXr, HPi⟩ := hrel
    obtain rfl | rfl | rfl | rfl | rfl : i = 0 ∨ i = 1 ∨ i = 2 ∨ i = 3 ∨ i = 4 := by omega
    · have hh : tryU s n x [33,88,70,71] = if isC s x.q 33 then (.un 33 (pF s n 0 x.adv).1, (pF s n 0 x.adv).2) else tryU s n x [88,70,71] := rfl
      have HP1 : Put (_) := ⟨HPi.out.trans hh⟩
      clear hh HPi
      have c0 := HBr.out.c0
      have c0' : wr.drew.cell? ⟨P, 0, none⟩ = _ := c0
      cases hc : isC s x.q 33 with
      | false =>
        have HG : Put (_) := ⟨got_no 33 hs (by omega) HBr.out.r.drew (isC_none hc)⟩
        go_wp2_with fail
        go_region_law ((go_simp; go_at_call 56; refine HG.out.mono ?_; rintro e w3 ⟨rfl, hr3, hx3⟩))
        all_goals
          have HF : Put (_) := ⟨HBr.out.ex hr3 ((Ex.refl _ _).drew.trans hx3) (Nat.le_refl _)⟩
          have HX : Put (_) := ⟨HXr.out.drew.trans hx3⟩
          have HP2 : Put (_ = _) := ⟨HP1.out.trans (by rw [hc])⟩
          clear hr3 hx3 c0 c0' HG HP1 HBr HXr
          go_wp2
          go_roundg (gk - 1)
          case measure => omega
          case rel => exact ⟨1, by go_num, by omega, HF, HX, HP2⟩
      | true =>
        obtain ⟨k, hk⟩ := isC_some hc
        obtain ⟨i, hi, his⟩ := isC_ok hc
        have HG : Put (_) := ⟨got_yes 33 k hs (by omega) HBr.out.r.drew hk⟩
        go_wp2_with fail
        go_region_law ((go_simp; go_at_call 56; refine HG.out.mono ?_; rintro e w3 ⟨rfl, hr3, hx3⟩))
        all_goals
          have HF : FB B P s x.adv w3 := HBr.out.ex hr3 ((Ex.refl _ _).drew.trans hx3) (by rw [hi]; simp [Q.adv, Q.top])
          have HX : Put (_) := ⟨HXr.out.drew.trans hx3⟩
          have HP2 : Put (_ = _) := ⟨HP1.out.trans (by rw [hc])⟩
          have HQ : Put (x.adv.q = .ok (i + 1)) := ⟨by show x.q.adv = _; rw [hi]; rfl⟩
          have HH : Put (_) := ⟨HF⟩
          have hnn : need s 0 x.adv ≤ n := by
            rcases need_adv (m' := 0) (y := x.adv) hn (by omega) (fun j hj => by
              have h1 : j = i + 1 := by have := HQ.out.symm.trans hj; cases this; rfl
              exact ⟨i, hi, by omega, by omega⟩) with h | ⟨p, h⟩
            · exact h
            · have := HQ.out.symm.trans h; cases this
          clear hr3 hx3 c0 c0' HG HP1 HBr HXr
          go_wp2_with fail
          refine (HIO.out _ _ HH.out hnn).mono ?_
          obtain ⟨r2, hr2⟩ : ∃ r2, r2 = pF s n 0 x.adv := ⟨_, rfl⟩
          rw [← hr2]
          rw [← hr2] at HP2
          rintro e w4 ⟨⟨o', a0', a1', a2', b0', b1', b2', g', p', l', c', rfl, hnv4⟩, hb4, hx4⟩
          have HX4 : Put (Ex2 B P w2 w4) := ⟨(HX.out.two).trans hx4⟩
          have HNV4 : Put (_) := ⟨hnv4⟩
          have HB4 : Put (_) := ⟨hb4⟩
          have hR4 := (HX4.out.block _ (lt_of_block HR0.out) (by omega) (by omega)).trans HR0.out
          obtain ⟨⟨m0, m1, m2, m3, m4, m5, m6, m7, m8⟩, mf⟩ := blk9 hR4
          have l3 := lt_of_block hR4
          have l4 := hb4.lt
          have l5 := hb4.r.lt
          clear hnv4 hb4 hx4 hR4 hnn HF
          have HAt : Put (_) := ⟨At.nine w.heap.size w4 (.int .u8 33) (.int .i64 0) (.int .i64 0) (.int .i64 0) (.int .i64 0) (.int .i64 0) (.int .i64 0) (.int .u8 0) (.slice (some ⟨w4.heap.size + 1, 0, none⟩) 1 1)⟩
          go_wp2_with fail
          go_region
          all_goals
            go_wp2
            refine bodyPost_ret (v := .agg #[.int .u8 33, .int .i64 0, .int .i64 0, .int .i64 0, .int .i64 0, .int .i64 0, .int .i64 0, .int .u8 0, .slice (some ⟨w4.heap.size + 1, 0, none⟩) 1 1]) (by simp [results, Tryz.results175, go_sem, m0, m1, m2, m3, m4, m5, m6, m7, m8, l3, Nat.lt_succ_of_lt l3]; rfl) rfl ?_
            rw [HP2.out]
            exact FPost.drew (close_un 33 (r2 := r2) (us := [_, _, _, _, _, _, _, _, _]) HB4.out (HX0.out.trans HX4.out) hBl hP (fun i hi => (HNV4.out i hi).keep (by have := lt_of_block HR0.out; have := HX.out.size; simp; omega) (fun _ _ _ => rfl)) HAt.out _)
    · have hh : tryU s n x [88,70,71] = if isC s x.q 88 then (.un 88 (pF s n 0 x.adv.hvy).1, (pF s n 0 x.adv.hvy).2) else tryU s n x [70,71] := rfl
      have HP1 : Put (_) := ⟨HPi.out.trans hh⟩
      clear hh HPi
      have c0 := HBr.out.c0
      have c0' : wr.drew.cell? ⟨P, 0, none⟩ = _ := c0
      cases hc : isC s x.q 88 with
      | false =>
        have HG : Put (_) := ⟨got_no 88 hs (by omega) HBr.out.r.drew (isC_none hc)⟩
        go_wp2_with fail
        go_region_law ((go_simp; go_at_call 56; refine HG.out.mono ?_; rintro e w3 ⟨rfl, hr3, hx3⟩))
        all_goals
          have HF : Put (_) := ⟨HBr.out.ex hr3 ((Ex.refl _ _).drew.trans hx3) (Nat.le_refl _)⟩
          have HX : Put (_) := ⟨HXr.out.drew.trans hx3⟩
          have HP2 : Put (_ = _) := ⟨HP1.out.trans (by rw [hc])⟩
          clear hr3 hx3 c0 c0' HG HP1 HBr HXr
          go_wp2
          go_roundg (gk - 1)
          case measure => omega
          case rel => exact ⟨2, by go_num, by omega, HF, HX, HP2⟩
      | true =>
        obtain ⟨k, hk⟩ := isC_some hc
        obtain ⟨i, hi, his⟩ := isC_ok hc
        have HG : Put (_) := ⟨got_yes 88 k hs (by omega) HBr.out.r.drew hk⟩
        go_wp2_with fail
        go_region_law ((go_simp; go_at_call 56; refine HG.out.mono ?_; rintro e w3 ⟨rfl, hr3, hx3⟩))
        all_goals
          have HF : FB B P s x.adv w3 := HBr.out.ex hr3 ((Ex.refl _ _).drew.trans hx3) (by rw [hi]; simp [Q.adv, Q.top])
          have HX : Put (_) := ⟨HXr.out.drew.trans hx3⟩
          have HP2 : Put (_ = _) := ⟨HP1.out.trans (by rw [hc])⟩
          have HQ : Put (x.adv.q = .ok (i + 1)) := ⟨by show x.q.adv = _; rw [hi]; rfl⟩
          have HH : Put (_) := ⟨HF.heavy (by rw [HQ.out]; have := HBr.out.g; rw [hi] at this; exact Nat.succ_le_succ this)⟩
          have hnn : need s 0 x.adv.hvy ≤ n := by
            rcases need_adv (m' := 0) (y := x.adv.hvy) hn (by omega) (fun j hj => by
              have h1 : j = i + 1 := by have := HQ.out.symm.trans hj; cases this; rfl
              exact ⟨i, hi, by omega, by omega⟩) with h | ⟨p, h⟩
            · exact h
            · have := HQ.out.symm.trans h; cases this
          have d3 := HF.c3
          have df := HF.free 3
          have dg : x.adv.wgt ≤ 120 := by
            have := HF.g
            rw [HQ.out] at this; simp only [Q.top] at this; omega
          clear hr3 hx3 c0 c0' HG HP1 HBr HXr
          go_wp2_with fail
          refine (HIO.out _ _ HH.out hnn).mono ?_
          obtain ⟨r2, hr2⟩ : ∃ r2, r2 = pF s n 0 x.adv.hvy := ⟨_, rfl⟩
          rw [← hr2]
          rw [← hr2] at HP2
          rintro e w4 ⟨⟨o', a0', a1', a2', b0', b1', b2', g', p', l', c', rfl, hnv4⟩, hb4, hx4⟩
          have HX4 : Put (Ex2 B P w2 w4) := ⟨((HX.out.two).setP 3 _).trans hx4⟩
          have HNV4 : Put (_) := ⟨hnv4⟩
          have HB4 : Put (_) := ⟨hb4⟩
          have hR4 := (HX4.out.block _ (lt_of_block HR0.out) (by omega) (by omega)).trans HR0.out
          obtain ⟨⟨m0, m1, m2, m3, m4, m5, m6, m7, m8⟩, mf⟩ := blk9 hR4
          have l3 := lt_of_block hR4
          have l4 := hb4.lt
          have l5 := hb4.r.lt
          clear hnv4 hb4 hx4 hR4 hnn dg df d3 HF
          have HAt : Put (_) := ⟨At.nine w.heap.size w4 (.int .u8 88) (.int .i64 0) (.int .i64 0) (.int .i64 0) (.int .i64 0) (.int .i64 0) (.int .i64 0) (.int .u8 0) (.slice (some ⟨w4.heap.size + 1, 0, none⟩) 1 1)⟩
          go_wp2_with fail
          go_region
          all_goals
            go_wp2
            refine bodyPost_ret (v := .agg #[.int .u8 88, .int .i64 0, .int .i64 0, .int .i64 0, .int .i64 0, .int .i64 0, .int .i64 0, .int .u8 0, .slice (some ⟨w4.heap.size + 1, 0, none⟩) 1 1]) (by simp [results, Tryz.results175, go_sem, m0, m1, m2, m3, m4, m5, m6, m7, m8, l3, Nat.lt_succ_of_lt l3]; rfl) rfl ?_
            rw [HP2.out]
            exact FPost.drew (close_un 88 (r2 := r2) (us := [_, _, _, _, _, _, _, _, _]) HB4.out (HX0.out.trans HX4.out) hBl hP (fun i hi => (HNV4.out i hi).keep (by have := lt_of_block HR0.out; have := HX.out.size; simp; omega) (fun _ _ _ => rfl)) HAt.out _)
    · have hh : tryU s n x [70,71] = if isC s x.q 70 then (.un 70 (pF s n 0 x.adv.hvy).1, (pF s n 0 x.adv.hvy).2) else tryU s n x [71] := rfl
      have HP1 : Put (_) := ⟨HPi.out.trans hh⟩
      clear hh HPi
      have c0 := HBr.out.c0
      have c0' : wr.drew.cell? ⟨P, 0, none⟩ = _ := c0
      cases hc : isC s x.q 70 with
      | false =>
        have HG : Put (_) := ⟨got_no 70 hs (by omega) HBr.out.r.drew (isC_none hc)⟩
        go_wp2_with fail
        go_region_law ((go_simp; go_at_call 56; refine HG.out.mono ?_; rintro e w3 ⟨rfl, hr3, hx3⟩))
        all_goals
          have HF : Put (_) := ⟨HBr.out.ex hr3 ((Ex.refl _ _).drew.trans hx3) (Nat.le_refl _)⟩
          have HX : Put (_) := ⟨HXr.out.drew.trans hx3⟩
          have HP2 : Put (_ = _) := ⟨HP1.out.trans (by rw [hc])⟩
          clear hr3 hx3 c0 c0' HG HP1 HBr HXr
          go_wp2
          go_roundg (gk - 1)
          case measure => omega
          case rel => exact ⟨3, by go_num, by omega, HF, HX, HP2⟩
      | true =>
        obtain ⟨k, hk⟩ := isC_some hc
        obtain ⟨i, hi, his⟩ := isC_ok hc
        have HG : Put (_) := ⟨got_yes 70 k hs (by omega) HBr.out.r.drew hk⟩
        go_wp2_with fail
        go_region_law ((go_simp; go_at_call 56; refine HG.out.mono ?_; rintro e w3 ⟨rfl, hr3, hx3⟩))
        all_goals
          have HF : FB B P s x.adv w3 := HBr.out.ex hr3 ((Ex.refl _ _).drew.trans hx3) (by rw [hi]; simp [Q.adv, Q.top])
          have HX : Put (_) := ⟨HXr.out.drew.trans hx3⟩
          have HP2 : Put (_ = _) := ⟨HP1.out.trans (by rw [hc])⟩
          have HQ : Put (x.adv.q = .ok (i + 1)) := ⟨by show x.q.adv = _; rw [hi]; rfl⟩
          have HH : Put (_) := ⟨HF.heavy (by rw [HQ.out]; have := HBr.out.g; rw [hi] at this; exact Nat.succ_le_succ this)⟩
          have hnn : need s 0 x.adv.hvy ≤ n := by
            rcases need_adv (m' := 0) (y := x.adv.hvy) hn (by omega) (fun j hj => by
              have h1 : j = i + 1 := by have := HQ.out.symm.trans hj; cases this; rfl
              exact ⟨i, hi, by omega, by omega⟩) with h | ⟨p, h⟩
            · exact h
            · have := HQ.out.symm.trans h; cases this
          have d3 := HF.c3
          have df := HF.free 3
          have dg : x.adv.wgt ≤ 120 := by
            have := HF.g
            rw [HQ.out] at this; simp only [Q.top] at this; omega
          clear hr3 hx3 c0 c0' HG HP1 HBr HXr
          go_wp2_with fail
          refine (HIO.out _ _ HH.out hnn).mono ?_
          obtain ⟨r2, hr2⟩ : ∃ r2, r2 = pF s n 0 x.adv.hvy := ⟨_, rfl⟩
          rw [← hr2]
          rw [← hr2] at HP2
          rintro e w4 ⟨⟨o', a0', a1', a2', b0', b1', b2', g', p', l', c', rfl, hnv4⟩, hb4, hx4⟩
          have HX4 : Put (Ex2 B P w2 w4) := ⟨((HX.out.two).setP 3 _).trans hx4⟩
          have HNV4 : Put (_) := ⟨hnv4⟩
          have HB4 : Put (_) := ⟨hb4⟩
          have hR4 := (HX4.out.block _ (lt_of_block HR0.out) (by omega) (by omega)).trans HR0.out
          obtain ⟨⟨m0, m1, m2, m3, m4, m5, m6, m7, m8⟩, mf⟩ := blk9 hR4
          have l3 := lt_of_block hR4
          have l4 := hb4.lt
          have l5 := hb4.r.lt
          clear hnv4 hb4 hx4 hR4 hnn dg df d3 HF
          have HAt : Put (_) := ⟨At.nine w.heap.size w4 (.int .u8 70) (.int .i64 0) (.int .i64 0) (.int .i64 0) (.int .i64 0) (.int .i64 0) (.int .i64 0) (.int .u8 0) (.slice (some ⟨w4.heap.size + 1, 0, none⟩) 1 1)⟩
          go_wp2_with fail
          go_region
          all_goals
            go_wp2
            refine bodyPost_ret (v := .agg #[.int .u8 70, .int .i64 0, .int .i64 0, .int .i64 0, .int .i64 0, .int .i64 0, .int .i64 0, .int .u8 0, .slice (some ⟨w4.heap.size + 1, 0, none⟩) 1 1]) (by simp [results, Tryz.results175, go_sem, m0, m1, m2, m3, m4, m5, m6, m7, m8, l3, Nat.lt_succ_of_lt l3]; rfl) rfl ?_
            rw [HP2.out]
            exact FPost.drew (close_un 70 (r2 := r2) (us := [_, _, _, _, _, _, _, _, _]) HB4.out (HX0.out.trans HX4.out) hBl hP (fun i hi => (HNV4.out i hi).keep (by have := lt_of_block HR0.out; have := HX.out.size; simp; omega) (fun _ _ _ => rfl)) HAt.out _)
    · have hh : tryU s n x [71] = if isC s x.q 71 then (.un 71 (pF s n 0 x.adv.hvy).1, (pF s n 0 x.adv.hvy).2) else tryU s n x [] := rfl
      have HP1 : Put (_) := ⟨HPi.out.trans hh⟩
      clear hh HPi
      have c0 := HBr.out.c0
      have c0' : wr.drew.cell? ⟨P, 0, none⟩ = _ := c0
      cases hc : isC s x.q 71 with
      | false =>
        have HG : Put (_) := ⟨got_no 71 hs (by omega) HBr.out.r.drew (isC_none hc)⟩
        go_wp2_with fail
        go_region_law ((go_simp; go_at_call 56; refine HG.out.mono ?_; rintro e w3 ⟨rfl, hr3, hx3⟩))
        all_goals
          have HF : Put (_) := ⟨HBr.out.ex hr3 ((Ex.refl _ _).drew.trans hx3) (Nat.le_refl _)⟩
          have HX : Put (_) := ⟨HXr.out.drew.trans hx3⟩
          have HP2 : Put (_ = _) := ⟨HP1.out.trans (by rw [hc])⟩
          clear hr3 hx3 c0 c0' HG HP1 HBr HXr
          go_wp2
          go_roundg (gk - 1)
          case measure => omega
          case rel => exact ⟨4, by go_num, by omega, HF, HX, HP2⟩
      | true =>
        obtain ⟨k, hk⟩ := isC_some hc
        obtain ⟨i, hi, his⟩ := isC_ok hc
        have HG : Put (_) := ⟨got_yes 71 k hs (by omega) HBr.out.r.drew hk⟩
        go_wp2_with fail
        go_region_law ((go_simp; go_at_call 56; refine HG.out.mono ?_; rintro e w3 ⟨rfl, hr3, hx3⟩))
        all_goals
          have HF : FB B P s x.adv w3 := HBr.out.ex hr3 ((Ex.refl _ _).drew.trans hx3) (by rw [hi]; simp [Q.adv, Q.top])
          have HX : Put (_) := ⟨HXr.out.drew.trans hx3⟩
          have HP2 : Put (_ = _) := ⟨HP1.out.trans (by rw [hc])⟩
          have HQ : Put (x.adv.q = .ok (i + 1)) := ⟨by show x.q.adv = _; rw [hi]; rfl⟩
          have HH : Put (_) := ⟨HF.heavy (by rw [HQ.out]; have := HBr.out.g; rw [hi] at this; exact Nat.succ_le_succ this)⟩
          have hnn : need s 0 x.adv.hvy ≤ n := by
            rcases need_adv (m' := 0) (y := x.adv.hvy) hn (by omega) (fun j hj => by
              have h1 : j = i + 1 := by have := HQ.out.symm.trans hj; cases this; rfl
              exact ⟨i, hi, by omega, by omega⟩) with h | ⟨p, h⟩
            · exact h
            · have := HQ.out.symm.trans h; cases this
          have d3 := HF.c3
          have df := HF.free 3
          have dg : x.adv.wgt ≤ 120 := by
            have := HF.g
            rw [HQ.out] at this; simp only [Q.top] at this; omega
          clear hr3 hx3 c0 c0' HG HP1 HBr HXr
          go_wp2_with fail
          refine (HIO.out _ _ HH.out hnn).mono ?_
          obtain ⟨r2, hr2⟩ : ∃ r2, r2 = pF s n 0 x.adv.hvy := ⟨_, rfl⟩
          rw [← hr2]
          rw [← hr2] at HP2
          rintro e w4 ⟨⟨o', a0', a1', a2', b0', b1', b2', g', p', l', c', rfl, hnv4⟩, hb4, hx4⟩
          have HX4 : Put (Ex2 B P w2 w4) := ⟨((HX.out.two).setP 3 _).trans hx4⟩
          have HNV4 : Put (_) := ⟨hnv4⟩
          have HB4 : Put (_) := ⟨hb4⟩
          have hR4 := (HX4.out.block _ (lt_of_block HR0.out) (by omega) (by omega)).trans HR0.out
          obtain ⟨⟨m0, m1, m2, m3, m4, m5, m6, m7, m8⟩, mf⟩ := blk9 hR4
          have l3 := lt_of_block hR4
          have l4 := hb4.lt
          have l5 := hb4.r.lt
          clear hnv4 hb4 hx4 hR4 hnn dg df d3 HF
          have HAt : Put (_) := ⟨At.nine w.heap.size w4 (.int .u8 71) (.int .i64 0) (.int .i64 0) (.int .i64 0) (.int .i64 0) (.int .i64 0) (.int .i64 0) (.int .u8 0) (.slice (some ⟨w4.heap.size + 1, 0, none⟩) 1 1)⟩
          go_wp2_with fail
          go_region
          all_goals
            go_wp2
            refine bodyPost_ret (v := .agg #[.int .u8 71, .int .i64 0, .int .i64 0, .int .i64 0, .int .i64 0, .int .i64 0, .int .i64 0, .int .u8 0, .slice (some ⟨w4.heap.size + 1, 0, none⟩) 1 1]) (by simp [results, Tryz.results175, go_sem, m0, m1, m2, m3, m4, m5, m6, m7, m8, l3, Nat.lt_succ_of_lt l3]; rfl) rfl ?_
            rw [HP2.out]
            exact FPost.drew (close_un 71 (r2 := r2) (us := [_, _, _, _, _, _, _, _, _]) HB4.out (HX0.out.trans HX4.out) hBl hP (fun i hi => (HNV4.out i hi).keep (by have := lt_of_block HR0.out; have := HX.out.size; simp; omega) (fun _ _ _ => rfl)) HAt.out _)
    · have HP2 : Put (pF s (n + 1) 0 x = tailU s n x) := ⟨HPi.out⟩
      have c0 := HBr.out.c0
      clear HPi
      unfold tailU at HP2
      cases hc : isC s x.q 84 with
      | true =>
        obtain ⟨k, hk⟩ := isC_some hc
        obtain ⟨i, hi, his⟩ := isC_ok hc
        have HG : Put (_) := ⟨got_yes 84 k hs (by omega) HBr.out.r hk⟩
        go_wp2_with fail
        refine HG.out.mono ?_; rintro e w3 ⟨rfl, hr3, hx3⟩
        have HF : Put (FB B P s x.adv w3) := ⟨HBr.out.ex hr3 hx3 (by rw [hi]; simp [Q.adv, Q.top])⟩
        have HX : Put (_) := ⟨HXr.out.trans hx3⟩
        have hR3 := (HX.out.block _ (lt_of_block HR0.out) (by omega)).trans HR0.out
        obtain ⟨⟨m0, m1, m2, m3, m4, m5, m6, m7, m8⟩, mf⟩ := blk9 hR3
        have HAt : Put (_) := ⟨At.nine w.heap.size w3 (.int .u8 84) (.int .i64 0) (.int .i64 0) (.int .i64 0) (.int .i64 0) (.int .i64 0) (.int .i64 0) (.int .u8 0) (.slice none 0 0)⟩
        clear hR3 hr3 hx3 c0 HG
        go_wp2
        refine bodyPost_ret (v := .agg #[.int .u8 84, .int .i64 0, .int .i64 0, .int .i64 0, .int .i64 0, .int .i64 0, .int .i64 0, .int .u8 0, .slice none 0 0]) (by simp [results, Tryz.results175, go_sem, m0, m1, m2, m3, m4, m5, m6, m7, m8]) rfl ?_
        rw [HP2.out, hc]
        exact ⟨⟨_, _, _, _, _, _, _, _, _, _, _, rfl, fun i hi => rfl⟩, HF.out.at HAt.out (by omega) (by omega), (HX0.out.trans HX.out.two).at HAt.out (Nat.le_refl _)⟩
      | false =>
        have HP3 : Put (_ = _) := ⟨HP2.out.trans (by rw [hc])⟩
        clear HP2
        have HG : Put (_) := ⟨got_no 84 hs (by omega) HBr.out.r (isC_none hc)⟩
        go_wp2_with fail
        refine HG.out.mono ?_; rintro e w3 ⟨rfl, hr3, hx3⟩
        have hF : FB B P s x w3 := HBr.out.ex hr3 hx3 (Nat.le_refl _)
        have HX : Put (_) := ⟨HXr.out.trans hx3⟩
        have HF : Put (_) := ⟨hF⟩
        have c0 := hF.c0
        clear hF hr3 hx3 HG
        go_wp2_with fail
        cases hc2 : isC s x.q 40 with
        | true =>
          obtain ⟨k, hk⟩ := isC_some hc2
          obtain ⟨i, hi, his⟩ := isC_ok hc2
          have HP4 : Put (_ = _) := ⟨HP3.out.trans (by rw [hc2])⟩
          clear HP3
          refine (got_yes 40 k hs (by omega) HF.out.r hk).mono ?_; rintro e w4 ⟨rfl, hr4, hx4⟩
          have hF4 : FB B P s x.adv w4 := HF.out.ex hr4 hx4 (by rw [hi]; simp [Q.adv, Q.top])
          have HX4 : Put (_) := ⟨HX.out.trans hx4⟩
          have HF4 : Put (_) := ⟨hF4⟩
          have HQ : Put (x.adv.q = .ok (i + 1)) := ⟨by show x.q.adv = _; rw [hi]; rfl⟩
          have ho : x.adv.opn + 1 ≤ 1000 + x.adv.q.top s := by
            have := HF.out.o
            rw [hi] at this
            rw [HQ.out]
            exact Nat.succ_le_succ this
          have hov : x.opn ≤ 2000 := by
            have := HF.out.o
            rw [hi] at this; simp only [Q.top] at this; omega
          have hnn : need s 3 x.adv.in ≤ n := by
            rcases need_adv (m' := 3) (y := x.adv.in) hn (by omega) (fun j hj => by
              have h1 : j = i + 1 := by have := HQ.out.symm.trans hj; cases this; rfl
              exact ⟨i, hi, by omega, by omega⟩) with h | ⟨p, h⟩
            · exact h
            · have := HQ.out.symm.trans h; cases this
          have d1 := hF4.c1
          have d2 := hF4.c2
          have df1 := hF4.free 1
          have df2 := hF4.free 2
          have e2 : x.adv.opn = x.opn := rfl
          have e1 : x.adv.deep = x.deep := rfl
          rw [e1] at d1
          rw [e2] at d2
          have c0 := hF4.c0
          have hne := hF4.ne
          have hne' := hF4.ne.symm
          obtain ⟨_, hRC⟩ : i + 1 ≤ s.size ∧ RC B s (i + 1) (-1) w4 := by have := hF4.r; rw [HQ.out] at this; exact this
          have rc1 := hRC.c1
          clear hr4 hx4 hF4 hRC
          by_cases hd : 10 < x.opn + 1 ∧ x.deep < 0
          · have HH : Put (_) := ⟨HF4.out.open1 ho hd⟩
            obtain ⟨hd1, hd2⟩ := hd
            have hd3 : (10 : Int) < (x.opn : Int) + 1 := by omega
            have epos : ((x.adv.q.pos : Int) - 1) = (i : Int) := by rw [HQ.out]; show ((i + 1 : Nat) : Int) - 1 = _; omega
            rw [epos] at HH
            have HXW : Put (_) := ⟨((HX4.out.two (M := P)).setP 2 (.int .i64 ((x.opn : Int) + 1))).setP 1 (.int .i64 (i : Int))⟩
            clear epos
            have e3 : x.adv.opn = x.opn := rfl
            rw [e3] at HH
            go_wp2_with fail
            refine (HIF.out _ _ HH.out hnn).mono ?_
            obtain ⟨r, hr⟩ : ∃ r, r = pF s n 3 x.adv.in := ⟨_, rfl⟩
            have HPo : Put (r.2.opn = x.opn + 1) := ⟨by rw [hr]; exact pF_opn s n 3 x.adv.in⟩
            rw [← hr]
            rw [← hr] at HP4
            rintro e w5 ⟨⟨o, a0, a1, a2, b0, b1, b2, g, p, l, c, rfl, hnv5⟩, hb5, hx5⟩
            have HX5 : Put (Ex2 B P w2 w5) := ⟨HXW.out.trans hx5⟩
            have HNV5 : Put (_) := ⟨hnv5⟩
            have hR5 := (HX5.out.block _ (lt_of_block HR0.out) (by omega) (by omega)).trans HR0.out
            have HR5 : Put (_) := ⟨hR5⟩
            have l1 := lt_of_block hR5
            have hb6 := hb5.alloc (.cells #[.int .u8 o, .int .i64 a0, .int .i64 a1, .int .i64 a2, .int .i64 b0, .int .i64 b1, .int .i64 b2, .int .u8 g, .slice p l c] 90)
            have HB6 : Put (_) := ⟨hb6⟩
            have c0 := hb6.c0
            have HSz : Put (_) := ⟨hx5.size⟩
            clear hb5 hx5 hnv5 hR5 hb6 d1 d2 df1 df2 rc1
            go_wp2_with fail
            refine (must_any 41 rfl hs (by omega) HB6.out.r).mono ?_; rintro e w7 ⟨rfl, hr7, hx7⟩
            have hF7 := HB6.out.ex hr7 hx7 (qMust_top HB6.out.r.le)
            have hR7 := (hx7.block _ (by simp; omega) (by omega)).trans ((Below.heap_alloc _ _ _ l1).trans HR5.out)
            have hA7 := (hx7.block _ (by simp) (by omega)).trans (heap_alloc_new w5 _)
            have HFc : Put (_) := ⟨hF7.close0 (k := x.opn) (Nat.le_trans (show x.opn ≤ r.2.opn by rw [HPo.out]; omega) hF7.o)⟩
            have d2 := hF7.c2
            have df2 := hF7.free 2
            have e7 : FSt.opn { r.2 with q := qMust s r.2.q 41 } = x.opn + 1 := HPo.out
            rw [e7] at d2
            obtain ⟨⟨n0, n1, n2, n3, n4, n5, n6, n7, n8⟩, nf⟩ := blk9 hA7
            obtain ⟨⟨m0, m1, m2, m3, m4, m5, m6, m7, m8⟩, mf⟩ := blk9 hR7
            have l2 := lt_of_block hA7
            have l3 := lt_of_block hR7
            have HX7 : Put (_) := ⟨hx7⟩
            have nP : ¬ (P = w5.heap.size) := by have := HX5.out.size; omega
            have nP' : ¬ (P = w.heap.size) := by omega
            have nPa : ¬ (w5.heap.size = P) := by have := HX5.out.size; omega
            have nPb : ¬ (w.heap.size = P) := by omega
            have nPc : ¬ (w.heap.size = w5.heap.size) := by omega
            clear hF7 hr7 hx7 hR7 hA7 e7 c0
            have HAt : Put (_) := ⟨At.nine w.heap.size (w7.setCell ⟨P, 2, none⟩ (.int .i64 (x.opn : Int))) (.int .u8 o) (.int .i64 a0) (.int .i64 a1) (.int .i64 a2) (.int .i64 b0) (.int .i64 b1) (.int .i64 b2) (.int .u8 g) (.slice p l c)⟩
            go_wp2
            refine bodyPost_ret (v := .agg #[.int .u8 o, .int .i64 a0, .int .i64 a1, .int .i64 a2, .int .i64 b0, .int .i64 b1, .int .i64 b2, .int .u8 g, .slice p l c]) (by simp [results, Tryz.results175, go_sem, m0, m1, m2, m3, m4, m5, m6, m7, m8]) rfl ?_
            rw [HP4.out]
            have hL := HXW.out.size
            refine ⟨⟨_, _, _, _, _, _, _, _, _, _, _, rfl, fun i hi => ?_⟩, HFc.out.at HAt.out (by omega) (by omega), (((HX0.out.trans (HX5.out.trans (Ex2.ofAlloc _ _))).trans HX7.out.two).setP 2 _).at HAt.out (Nat.le_refl _)⟩
            obtain ⟨j, hj, _⟩ := qMust_pos hi
            refine (HNV5.out j hj).keep (by omega) (fun k h1 h2 => ?_)
            rw [HAt.out.block k (by omega), heap_setCell_other _ _ _ _ (by show k ≠ P; omega), HX7.out.block k (by simp; omega) (by omega), Below.heap_alloc _ _ _ h2]
          · have HH : Put (_) := ⟨HF4.out.open0 ho hd⟩
            have e3 : x.adv.opn = x.opn := rfl
            rw [e3] at HH
            have HXW : Put (_) := ⟨(HX4.out.two (M := P)).setP 2 (.int .i64 ((x.opn : Int) + 1))⟩
            by_cases hd1 : 10 < x.opn + 1
            · have hd2 : ¬ (x.deep < 0) := fun h => hd ⟨hd1, h⟩
              have hd3 : (10 : Int) < (x.opn : Int) + 1 := by omega
              clear hd
              go_wp2_with fail
              refine (HIF.out _ _ HH.out hnn).mono ?_
              obtain ⟨r, hr⟩ : ∃ r, r = pF s n 3 x.adv.in := ⟨_, rfl⟩
              have HPo : Put (r.2.opn = x.opn + 1) := ⟨by rw [hr]; exact pF_opn s n 3 x.adv.in⟩
              rw [← hr]
              rw [← hr] at HP4
              rintro e w5 ⟨⟨o, a0, a1, a2, b0, b1, b2, g, p, l, c, rfl, hnv5⟩, hb5, hx5⟩
              have HX5 : Put (Ex2 B P w2 w5) := ⟨HXW.out.trans hx5⟩
              have HNV5 : Put (_) := ⟨hnv5⟩
              have hR5 := (HX5.out.block _ (lt_of_block HR0.out) (by omega) (by omega)).trans HR0.out
              have HR5 : Put (_) := ⟨hR5⟩
              have l1 := lt_of_block hR5
              have hb6 := hb5.alloc (.cells #[.int .u8 o, .int .i64 a0, .int .i64 a1, .int .i64 a2, .int .i64 b0, .int .i64 b1, .int .i64 b2, .int .u8 g, .slice p l c] 90)
              have HB6 : Put (_) := ⟨hb6⟩
              have c0 := hb6.c0
              have HSz : Put (_) := ⟨hx5.size⟩
              clear hb5 hx5 hnv5 hR5 hb6 d1 d2 df1 df2 rc1
              go_wp2_with fail
              refine (must_any 41 rfl hs (by omega) HB6.out.r).mono ?_; rintro e w7 ⟨rfl, hr7, hx7⟩
              have hF7 := HB6.out.ex hr7 hx7 (qMust_top HB6.out.r.le)
              have hR7 := (hx7.block _ (by simp; omega) (by omega)).trans ((Below.heap_alloc _ _ _ l1).trans HR5.out)
              have hA7 := (hx7.block _ (by simp) (by omega)).trans (heap_alloc_new w5 _)
              have HFc : Put (_) := ⟨hF7.close0 (k := x.opn) (Nat.le_trans (show x.opn ≤ r.2.opn by rw [HPo.out]; omega) hF7.o)⟩
              have d2 := hF7.c2
              have df2 := hF7.free 2
              have e7 : FSt.opn { r.2 with q := qMust s r.2.q 41 } = x.opn + 1 := HPo.out
              rw [e7] at d2
              obtain ⟨⟨n0, n1, n2, n3, n4, n5, n6, n7, n8⟩, nf⟩ := blk9 hA7
              obtain ⟨⟨m0, m1, m2, m3, m4, m5, m6, m7, m8⟩, mf⟩ := blk9 hR7
              have l2 := lt_of_block hA7
              have l3 := lt_of_block hR7
              have HX7 : Put (_) := ⟨hx7⟩
              have nP : ¬ (P = w5.heap.size) := by have := HX5.out.size; omega
              have nP' : ¬ (P = w.heap.size) := by omega
              have nPa : ¬ (w5.heap.size = P) := by have := HX5.out.size; omega
              have nPb : ¬ (w.heap.size = P) := by omega
              have nPc : ¬ (w.heap.size = w5.heap.size) := by omega
              clear hF7 hr7 hx7 hR7 hA7 e7 c0
              have HAt : Put (_) := ⟨At.nine w.heap.size (w7.setCell ⟨P, 2, none⟩ (.int .i64 (x.opn : Int))) (.int .u8 o) (.int .i64 a0) (.int .i64 a1) (.int .i64 a2) (.int .i64 b0) (.int .i64 b1) (.int .i64 b2) (.int .u8 g) (.slice p l c)⟩
              go_wp2
              refine bodyPost_ret (v := .agg #[.int .u8 o, .int .i64 a0, .int .i64 a1, .int .i64 a2, .int .i64 b0, .int .i64 b1, .int .i64 b2, .int .u8 g, .slice p l c]) (by simp [results, Tryz.results175, go_sem, m0, m1, m2, m3, m4, m5, m6, m7, m8]) rfl ?_
              rw [HP4.out]
              have hL := HXW.out.size
              refine ⟨⟨_, _, _, _, _, _, _, _, _, _, _, rfl, fun i hi => ?_⟩, HFc.out.at HAt.out (by omega) (by omega), (((HX0.out.trans (HX5.out.trans (Ex2.ofAlloc _ _))).trans HX7.out.two).setP 2 _).at HAt.out (Nat.le_refl _)⟩
              obtain ⟨j, hj, _⟩ := qMust_pos hi
              refine (HNV5.out j hj).keep (by omega) (fun k h1 h2 => ?_)
              rw [HAt.out.block k (by omega), heap_setCell_other _ _ _ _ (by show k ≠ P; omega), HX7.out.block k (by simp; omega) (by omega), Below.heap_alloc _ _ _ h2]
            · have hd3 : ¬ ((10 : Int) < (x.opn : Int) + 1) := by omega
              clear hd
              go_wp2_with fail
              refine (HIF.out _ _ HH.out hnn).mono ?_
              obtain ⟨r, hr⟩ : ∃ r, r = pF s n 3 x.adv.in := ⟨_, rfl⟩
              have HPo : Put (r.2.opn = x.opn + 1) := ⟨by rw [hr]; exact pF_opn s n 3 x.adv.in⟩
              rw [← hr]
              rw [← hr] at HP4
              rintro e w5 ⟨⟨o, a0, a1, a2, b0, b1, b2, g, p, l, c, rfl, hnv5⟩, hb5, hx5⟩
              have HX5 : Put (Ex2 B P w2 w5) := ⟨HXW.out.trans hx5⟩
              have HNV5 : Put (_) := ⟨hnv5⟩
              have hR5 := (HX5.out.block _ (lt_of_block HR0.out) (by omega) (by omega)).trans HR0.out
              have HR5 : Put (_) := ⟨hR5⟩
              have l1 := lt_of_block hR5
              have hb6 := hb5.alloc (.cells #[.int .u8 o, .int .i64 a0, .int .i64 a1, .int .i64 a2, .int .i64 b0, .int .i64 b1, .int .i64 b2, .int .u8 g, .slice p l c] 90)
              have HB6 : Put (_) := ⟨hb6⟩
              have c0 := hb6.c0
              have HSz : Put (_) := ⟨hx5.size⟩
              clear hb5 hx5 hnv5 hR5 hb6 d1 d2 df1 df2 rc1
              go_wp2_with fail
              refine (must_any 41 rfl hs (by omega) HB6.out.r).mono ?_; rintro e w7 ⟨rfl, hr7, hx7⟩
              have hF7 := HB6.out.ex hr7 hx7 (qMust_top HB6.out.r.le)
              have hR7 := (hx7.block _ (by simp; omega) (by omega)).trans ((Below.heap_alloc _ _ _ l1).trans HR5.out)
              have hA7 := (hx7.block _ (by simp) (by omega)).trans (heap_alloc_new w5 _)
              have HFc : Put (_) := ⟨hF7.close0 (k := x.opn) (Nat.le_trans (show x.opn ≤ r.2.opn by rw [HPo.out]; omega) hF7.o)⟩
              have d2 := hF7.c2
              have df2 := hF7.free 2
              have e7 : FSt.opn { r.2 with q := qMust s r.2.q 41 } = x.opn + 1 := HPo.out
              rw [e7] at d2
              obtain ⟨⟨n0, n1, n2, n3, n4, n5, n6, n7, n8⟩, nf⟩ := blk9 hA7
              obtain ⟨⟨m0, m1, m2, m3, m4, m5, m6, m7, m8⟩, mf⟩ := blk9 hR7
              have l2 := lt_of_block hA7
              have l3 := lt_of_block hR7
              have HX7 : Put (_) := ⟨hx7⟩
              have nP : ¬ (P = w5.heap.size) := by have := HX5.out.size; omega
              have nP' : ¬ (P = w.heap.size) := by omega
              have nPa : ¬ (w5.heap.size = P) := by have := HX5.out.size; omega
              have nPb : ¬ (w.heap.size = P) := by omega
              have nPc : ¬ (w.heap.size = w5.heap.size) := by omega
              clear hF7 hr7 hx7 hR7 hA7 e7 c0
              have HAt : Put (_) := ⟨At.nine w.heap.size (w7.setCell ⟨P, 2, none⟩ (.int .i64 (x.opn : Int))) (.int .u8 o) (.int .i64 a0) (.int .i64 a1) (.int .i64 a2) (.int .i64 b0) (.int .i64 b1) (.int .i64 b2) (.int .u8 g) (.slice p l c)⟩
              go_wp2
              refine bodyPost_ret (v := .agg #[.int .u8 o, .int .i64 a0, .int .i64 a1, .int .i64 a2, .int .i64 b0, .int .i64 b1, .int .i64 b2, .int .u8 g, .slice p l c]) (by simp [results, Tryz.results175, go_sem, m0, m1, m2, m3, m4, m5, m6, m7, m8]) rfl ?_
              rw [HP4.out]
              have hL := HXW.out.size
              refine ⟨⟨_, _, _, _, _, _, _, _, _, _, _, rfl, fun i hi => ?_⟩, HFc.out.at HAt.out (by omega) (by omega), (((HX0.out.trans (HX5.out.trans (Ex2.ofAlloc _ _))).trans HX7.out.two).setP 2 _).at HAt.out (Nat.le_refl _)⟩
              obtain ⟨j, hj, _⟩ := qMust_pos hi
              refine (HNV5.out j hj).keep (by omega) (fun k h1 h2 => ?_)
              rw [HAt.out.block k (by omega), heap_setCell_other _ _ _ _ (by show k ≠ P; omega), HX7.out.block k (by simp; omega) (by omega), Below.heap_alloc _ _ _ h2]
        | false =>
          have HP4 : Put (_ = _) := ⟨HP3.out.trans (by rw [hc2])⟩
          clear HP3
          refine (got_no 40 hs (by omega) HF.out.r (isC_none hc2)).mono ?_; rintro e w4 ⟨rfl, hr4, hx4⟩
          have hF4 : FB B P s x w4 := HF.out.ex hr4 hx4 (Nat.le_refl _)
          have HX4 : Put (_) := ⟨HX.out.trans hx4⟩
          have HF4 : Put (_) := ⟨hF4⟩
          have c0 := hF4.c0
          clear hF4 hr4 hx4
          go_wp2_with fail
          cases hcn : qCond s x.q with
          | mk rr q' =>
          rw [hcn] at HP4
          refine (rcond_any hs HF4.out.r hcn).mono ?_
          rintro e w5 ⟨⟨a0, a1, a2, b0, b1, b2, op, rfl, hop⟩, hr5, hx5⟩
          have hF5 : FB B P s { x with q := q' } w5 := HF4.out.ex hr5 hx5 (by
            cases q' with
            | ok j =>
              obtain ⟨i, h1, h2⟩ := qCond_pos (s := s) (q := x.q) (j := j) (by rw [hcn])
              rw [h1]; exact h2
            | error p =>
              cases hq : x.q with
              | ok i => exact HF4.out.r.le i hq
              | error p => exact Nat.le_refl _)
          have HF5 : Put (_) := ⟨hF5⟩
          have HX5 : Put (_) := ⟨HX4.out.trans hx5⟩
          have HOP : Put (_) := ⟨hop⟩
          have hR5 := (HX5.out.block _ (lt_of_block HR0.out) (by omega)).trans HR0.out
          obtain ⟨⟨m0, m1, m2, m3, m4, m5, m6, m7, m8⟩, mf⟩ := blk9 hR5
          have l3 := lt_of_block hR5
          have HAt : Put (_) := ⟨At.nine w.heap.size w5 (.int .u8 99) (.int .i64 a0) (.int .i64 a1) (.int .i64 a2) (.int .i64 b0) (.int .i64 b1) (.int .i64 b2) (.int .u8 op) (.slice none 0 0)⟩
          clear hR5 hF5 hr5 hx5 hop c0
          go_wp2
          refine bodyPost_ret (v := .agg #[.int .u8 99, .int .i64 a0, .int .i64 a1, .int .i64 a2, .int .i64 b0, .int .i64 b1, .int .i64 b2, .int .u8 op, .slice none 0 0]) (by simp [results, Tryz.results175, go_sem, m0, m1, m2, m3, m4, m5, m6, m7, m8, l3]) rfl ?_
          rw [HP4.out]
          have hFF := (HF5.out.at HAt.out (by omega) (by omega)).alloc (.cells #[.int .i64 a0, .int .i64 a1, .int .i64 a2, .int .i64 b0, .int .i64 b1, .int .i64 b2, .int .u8 op] 87)
          have hXX := ((HX0.out.trans HX5.out.two).at HAt.out (Nat.le_refl _)).trans (Ex2.ofAlloc (B := B) (P := P) _ (.cells #[.int .i64 a0, .int .i64 a1, .int .i64 a2, .int .i64 b0, .int .i64 b1, .int .i64 b2, .int .u8 op] 87))
          cases rr with
          | none =>
            obtain ⟨p, rfl⟩ := fCond_none hcn
            exact ⟨⟨_, _, _, _, _, _, _, _, _, _, _, rfl, fun i hi => (by cases hi)⟩, hFF, hXX⟩
          | some y =>
            obtain ⟨rfl, rfl⟩ := HOP.out y rfl
            exact ⟨⟨_, _, _, _, _, _, _, _, _, _, _, rfl, fun i hi => rfl⟩, hFF, hXX⟩
end
end Go.Proofs.YtgoebckimmofoaaGreatDoor

/- The document's Form, walked. Our own text. -/
namespace Go.Proofs.YtgoebckimmofoaaGreatDoor
open Go.RowKit Go.Lib
section
variable {B P : Nat} {s : ByteArray} {w : World}
theorem all_step (hs : s.size ≤ 120) : ∀ n : Nat,
    (∀ x w, FB B P s x w → need s 3 x ≤ n → Calls Tryz.prog 65 #[.pointer (some ⟨P, 0, none⟩)] w (FPost B P s (pF s n 3 x) w)) ∧
    (∀ x w, FB B P s x w → need s 2 x ≤ n → Calls Tryz.prog 102 #[.pointer (some ⟨P, 0, none⟩)] w (FPost B P s (pF s n 2 x) w)) ∧
    (∀ x w, FB B P s x w → need s 1 x ≤ n → Calls Tryz.prog 144 #[.pointer (some ⟨P, 0, none⟩)] w (FPost B P s (pF s n 1 x) w)) ∧
    (∀ x w, FB B P s x w → need s 0 x ≤ n → Calls Tryz.prog 175 #[.pointer (some ⟨P, 0, none⟩)] w (FPost B P s (pF s n 0 x) w))
  | 0 => by
    refine ⟨fun x w _ h => ?_, fun x w _ h => ?_, fun x w _ h => ?_, fun x w _ h => ?_⟩ <;> (unfold need at h; omega)
  | n + 1 => by
    obtain ⟨h3, h2, h1, h0⟩ := all_step hs n
    exact ⟨fun x w hb hn => formula_step n hs h2 h3 hn hb, fun x w hb hn => both_step n hs h1 h2 hn hb, fun x w hb hn => pair_step n hs h0 hn hb, fun x w hb hn => one_step n hs h0 h3 hn hb⟩
end
/-- A whole formula. -/
def qForm (s : ByteArray) : Fm × FSt :=
  let r := pF s (4 * s.size + 4) 3 ⟨.ok 0, -1, 0, 0⟩
  (r.1, { r.2 with q := match r.2.q with
    | .ok i => if i < s.size then .error i else .ok i
    | .error p => .error p })
/-- What Form answers. -/
def FormPost (s : ByteArray) (w : World) (e : Ending) (w' : World) : Prop :=
  ∃ (B P : Nat), w.heap.size ≤ B ∧ w.heap.size ≤ P ∧ FB B P s (qForm s).2 w' ∧ Below w.heap.size w w' ∧
    ∃ (o a0 a1 a2 b0 b1 b2 g : Int) (p : Option Addr) (l c : Nat), e = .returned (.tuple #[.agg #[.int .u8 o, .int .i64 a0, .int .i64 a1, .int .i64 a2, .int .i64 b0, .int .i64 b1, .int .i64 b2, .int .u8 g, .slice p l c], .pointer (some ⟨P, 0, none⟩)]) ∧
      ∀ i, (qForm s).2.q = .ok i → NV w.heap.size s w' (qForm s).1 [.int .u8 o, .int .i64 a0, .int .i64 a1, .int .i64 a2, .int .i64 b0, .int .i64 b1, .int .i64 b2, .int .u8 g, .slice p l c]
theorem Ex2.under {B P N : Nat} {w w' : World} (h : Ex2 B P w w') (hB : N ≤ B) (hP : N ≤ P) (hN : N ≤ w.heap.size) : Below N w w' :=
  ⟨h.os, h.tape, h.output, h.size, fun k hk => h.block k (by omega) (by omega) (by omega)⟩
theorem At.under {b N : Nat} {w w' : World} (h : At b w w') (hb : N ≤ b) : Below N w w' :=
  ⟨h.os, h.tape, h.output, by rw [h.size]; exact Nat.le_refl _, fun k hk => h.block k (by omega)⟩
set_option maxRecDepth 100000 in
set_option maxHeartbeats 1600000 in
theorem form_any {s : ByteArray} {w : World} (hs : s.size ≤ 120) : Calls Tryz.prog 40 #[.string s] w (FormPost s w) := by
  have hFB : FB (w.heap.size + 1) (w.heap.size + 1 + 1) s ⟨.ok 0, -1, 0, 0⟩ (((w.alloc zN).alloc (.cells #[.string s, .int .i64 0, .int .i64 (-1)] 95)).alloc (.cells #[.pointer (some ⟨w.heap.size + 1, 0, none⟩), .int .i64 (-1), .int .i64 0, .int .i64 0] 98)) := by
    have h1 := heap_alloc_new (w.alloc zN) (.cells #[.string s, .int .i64 0, .int .i64 (-1)] 95)
    have h2 := heap_alloc_new ((w.alloc zN).alloc (.cells #[.string s, .int .i64 0, .int .i64 (-1)] 95)) (.cells #[.pointer (some ⟨w.heap.size + 1, 0, none⟩), .int .i64 (-1), .int .i64 0, .int .i64 0] 98)
    simp only [World.size_alloc] at h1 h2
    exact ⟨⟨Nat.zero_le _, (Below.heap_alloc _ _ _ (by simp)).trans h1⟩, h2, by omega, Nat.zero_le _, Nat.zero_le _⟩
  have hR0 : (((w.alloc zN).alloc (.cells #[.string s, .int .i64 0, .int .i64 (-1)] 95)).alloc (.cells #[.pointer (some ⟨w.heap.size + 1, 0, none⟩), .int .i64 (-1), .int .i64 0, .int .i64 0] 98)).heap[w.heap.size]? = some zN := by
    rw [Below.heap_alloc _ _ _ (by simp; omega), Below.heap_alloc _ _ _ (by simp), heap_alloc_new]
  have hB0 : Below w.heap.size w (((w.alloc zN).alloc (.cells #[.string s, .int .i64 0, .int .i64 (-1)] 95)).alloc (.cells #[.pointer (some ⟨w.heap.size + 1, 0, none⟩), .int .i64 (-1), .int .i64 0, .int .i64 0] 98)) :=
    (((Below.refl _ _).alloc (Nat.le_refl _) _).alloc (by simp) _).alloc (by simp; omega) _
  have HC : Put (_) := ⟨(all_step (B := w.heap.size + 1) (P := w.heap.size + 1 + 1) hs (4 * s.size + 4)).1 _ _ hFB (by unfold need; simp [Q.top])⟩
  obtain ⟨r, hr⟩ : ∃ r, r = pF s (4 * s.size + 4) 3 ⟨.ok 0, -1, 0, 0⟩ := ⟨_, rfl⟩
  have HQ : Put (qForm s = (r.1, { r.2 with q := match r.2.q with
    | .ok i => if i < s.size then .error i else .ok i
    | .error p => .error p })) := ⟨by rw [hr]; rfl⟩
  rw [← hr] at HC
  have HR0 : Put (_) := ⟨hR0⟩
  have HB0 : Put (_) := ⟨hB0⟩
  unfold zN at HC HR0 HB0
  clear hFB hR0 hB0 hr
  go_enter Tryz.func40, Tryz.ntmps40
  go_wp2_with fail
  refine HC.out.mono ?_
  rintro e w1 ⟨⟨o, a0, a1, a2, b0, b1, b2, g, p, l, c, rfl, hnv⟩, hb1, hx1⟩
  have hR1 := (hx1.block _ (by simp; omega) (by omega) (by omega)).trans HR0.out
  have l1 := lt_of_block hR1
  have HX1 : Put (_) := ⟨hx1⟩
  have HNV : Put (_) := ⟨hnv⟩
  have HB1 : Put (_) := ⟨hb1⟩
  have HR1 : Put (_) := ⟨hR1⟩
  have hb2 := hb1.alloc (.cells #[.int .u8 o, .int .i64 a0, .int .i64 a1, .int .i64 a2, .int .i64 b0, .int .i64 b1, .int .i64 b2, .int .u8 g, .slice p l c] 90)
  have HB2 : Put (_) := ⟨hb2⟩
  have c0 := hb2.c0
  have hlP := hb1.lt
  have hlB := hb1.r.lt
  have hsz := hx1.size
  simp only [World.size_alloc] at hsz
  clear HC hnv hx1 hR1
  cases hq : r.2.q with
  | error p' =>
    obtain ⟨i, hile, hrc⟩ : ∃ i, i ≤ s.size ∧ RC (w.heap.size + 1) s i p' _ := by have := hb2.r; rw [hq] at this; exact this
    have rc2 := hrc.c2
    have h0 : ¬ ((p' : Int) < 0) := by omega
    obtain ⟨⟨m0, m1, m2, m3, m4, m5, m6, m7, m8⟩, mf⟩ := blk9 HR1.out
    clear hb1 hb2 hrc
    have HAt : Put (_) := ⟨At.nine w.heap.size w1 (.int .u8 o) (.int .i64 a0) (.int .i64 a1) (.int .i64 a2) (.int .i64 b0) (.int .i64 b1) (.int .i64 b2) (.int .u8 g) (.slice p l c)⟩
    have HE : Put (qForm s = r) := ⟨by
      rw [HQ.out]; obtain ⟨φ, ⟨q, d, o, g⟩⟩ := r; simp only at hq; subst hq; rfl⟩
    go_wp2
    refine bodyPost_ret (v := .tuple #[.agg #[.int .u8 o, .int .i64 a0, .int .i64 a1, .int .i64 a2, .int .i64 b0, .int .i64 b1, .int .i64 b2, .int .u8 g, .slice p l c], .pointer (some ⟨w.heap.size + 1 + 1, 0, none⟩)]) (by simp [results, Tryz.results40, go_sem, m0, m1, m2, m3, m4, m5, m6, m7, m8, l1]) rfl ?_
    refine ⟨w.heap.size + 1, w.heap.size + 1 + 1, by omega, by omega, ?_, ?_, _, _, _, _, _, _, _, _, _, _, _, rfl, fun i hi => ?_⟩
    · rw [HE.out]; exact (HB1.out.at HAt.out (by omega) (by omega)).alloc _
    · exact ((HB0.out.trans (HX1.out.under (by omega) (by omega) (by simp; omega))).trans (HAt.out.under (Nat.le_refl _))).alloc (by rw [HAt.out.size]; omega) _
    · rw [HE.out] at hi ⊢
      refine (HNV.out i hi).keep (by simp; omega) (fun k h1 h2 => ?_)
      simp only [World.size_alloc] at h1
      rw [Below.heap_alloc _ _ _ (by rw [HAt.out.size]; exact h2), HAt.out.block k (by omega)]
  | ok i =>
    obtain ⟨hile, hrc⟩ : i ≤ s.size ∧ RC (w.heap.size + 1) s i (-1) _ := by have := hb2.r; rw [hq] at this; exact this
    have rc1 := hrc.c1
    have rc2 := hrc.c2
    obtain ⟨⟨m0, m1, m2, m3, m4, m5, m6, m7, m8⟩, mf⟩ := blk9 HR1.out
    clear hb1 hb2 hrc
    by_cases his : i < s.size
    · have his' : (i : Int) < (s.size : Int) := by omega
      clear m0 m1 m2 m3 m4 m5 m6 m7 m8 mf
      go_wp2_with fail
      refine (fail_any hs HB2.out.r).mono ?_; rintro e w3 ⟨rfl, hr3, hx3⟩
      have hF3 := HB2.out.ex hr3 hx3 (by rw [hq]; simp [Q.fail, Q.top]; omega)
      have HE : Put (qForm s = (r.1, { r.2 with q := r.2.q.fail })) := ⟨by
        rw [HQ.out]; obtain ⟨φ, ⟨q, d, o, g⟩⟩ := r; simp only at hq; subst hq; simp [his, Q.fail]⟩
      have HF3 : Put (_) := ⟨hF3⟩
      have hR3 := (hx3.block _ (by simp; omega) (by omega)).trans ((Below.heap_alloc _ _ _ l1).trans HR1.out)
      have hA3 := (hx3.block _ (by simp) (by omega)).trans (heap_alloc_new w1 _)
      obtain ⟨⟨m0, m1, m2, m3, m4, m5, m6, m7, m8⟩, mf⟩ := blk9 hR3
      obtain ⟨⟨n0, n1, n2, n3, n4, n5, n6, n7, n8⟩, nf⟩ := blk9 hA3
      have HX3 : Put (_) := ⟨hx3⟩
      have l2 := lt_of_block hA3
      have l3 := lt_of_block hR3
      have hsz3 := hx3.size
      simp only [World.size_alloc] at hsz3
      clear hr3 hx3 hF3 hR3 hA3 c0 rc1 rc2
      have HAt : Put (_) := ⟨At.nine w.heap.size w3 (.int .u8 o) (.int .i64 a0) (.int .i64 a1) (.int .i64 a2) (.int .i64 b0) (.int .i64 b1) (.int .i64 b2) (.int .u8 g) (.slice p l c)⟩
      go_wp2
      refine bodyPost_ret (v := .tuple #[.agg #[.int .u8 o, .int .i64 a0, .int .i64 a1, .int .i64 a2, .int .i64 b0, .int .i64 b1, .int .i64 b2, .int .u8 g, .slice p l c], .pointer (some ⟨w.heap.size + 1 + 1, 0, none⟩)]) (by simp [results, Tryz.results40, go_sem, m0, m1, m2, m3, m4, m5, m6, m7, m8]) rfl ?_
      refine ⟨w.heap.size + 1, w.heap.size + 1 + 1, by omega, by omega, ?_, ?_, _, _, _, _, _, _, _, _, _, _, _, rfl, fun i hi => ?_⟩
      · rw [HE.out]; exact HF3.out.at HAt.out (by omega) (by omega)
      · exact ((HB0.out.trans (HX1.out.under (by omega) (by omega) (by simp; omega))).trans (((Ex2.ofAlloc (B := w.heap.size + 1) (P := w.heap.size + 1 + 1) _ _).trans HX3.out.two).under (by omega) (by omega) (by omega))).trans (HAt.out.under (Nat.le_refl _))
      · rw [HE.out] at hi
        simp [hq, Q.fail] at hi
    · have his' : ¬ ((i : Int) < (s.size : Int)) := by omega
      have HE : Put (qForm s = r) := ⟨by
        rw [HQ.out]; obtain ⟨φ, ⟨q, d, o, g⟩⟩ := r; simp only at hq; subst hq; simp [his]⟩
      have HAt : Put (_) := ⟨At.nine w.heap.size w1 (.int .u8 o) (.int .i64 a0) (.int .i64 a1) (.int .i64 a2) (.int .i64 b0) (.int .i64 b1) (.int .i64 b2) (.int .u8 g) (.slice p l c)⟩
      go_wp2
      refine bodyPost_ret (v := .tuple #[.agg #[.int .u8 o, .int .i64 a0, .int .i64 a1, .int .i64 a2, .int .i64 b0, .int .i64 b1, .int .i64 b2, .int .u8 g, .slice p l c], .pointer (some ⟨w.heap.size + 1 + 1, 0, none⟩)]) (by simp [results, Tryz.results40, go_sem, m0, m1, m2, m3, m4, m5, m6, m7, m8, l1]) rfl ?_
      refine ⟨w.heap.size + 1, w.heap.size + 1 + 1, by omega, by omega, ?_, ?_, _, _, _, _, _, _, _, _, _, _, _, rfl, fun i hi => ?_⟩
      · rw [HE.out]; exact (HB1.out.at HAt.out (by omega) (by omega)).alloc _
      · exact ((HB0.out.trans (HX1.out.under (by omega) (by omega) (by simp; omega))).trans (HAt.out.under (Nat.le_refl _))).alloc (by rw [HAt.out.size]; omega) _
      · rw [HE.out] at hi ⊢
        refine (HNV.out i hi).keep (by simp; omega) (fun k h1 h2 => ?_)
        simp only [World.size_alloc] at h1
        rw [Below.heap_alloc _ _ _ (by rw [HAt.out.size]; exact h2), HAt.out.block k (by omega)]
end Go.Proofs.YtgoebckimmofoaaGreatDoor
