import Derived.Test.YtkbmolodljenjaaDoorP23
import Derived.Test.YtkbmolodljenjaaDoorP13
/- The code's Run. Our own text. -/
namespace Go.Proofs.YtkbmolodljenjaaDoor
open Go.RowKit Go.Lib

/-- What the code's Run answers. -/
def RunR (s : ByteArray) (L : List ByteArray) (loop : Int) (c : Nat) (p : Int) : Prop :=
  ((rCheck s).1 ≠ 0 ∧ c = (rCheck s).1 ∧ p = (rCheck s).2) ∨
  ((rCheck s).1 = 0 ∧ ∃ (va : List VA) (ra : List RA) (q' : Q), qRead s = (some (va, ra), q') ∧ GoodA va ra ∧
    ((7000 < L.length ∧ c = 1 ∧ p = 0) ∨
     (L.length ≤ 7000 ∧ ∃ (i : Nat) (hi : i < L.length), ¬ OkS L[i] va.length (GvA va) ∧ (∀ j (hj : j < i), OkS (L[j]'(Nat.lt_trans hj hi)) va.length (GvA va)) ∧ c = 8 ∧ p = (i : Int)) ∨
     (L.length ≤ 7000 ∧ (∀ s ∈ L, OkS s va.length (GvA va)) ∧ ¬ (0 ≤ loop ∧ loop < (L.length : Int)) ∧ c = 9 ∧ p = 0) ∨
     (L.length ≤ 7000 ∧ ∃ (k : Nat) (_ : loop = (k : Int)) (xs : List Nat) (f : Nat → Nat) (hx : xs.length = L.length) (hk : k < xs.length), (∀ i (hi : i < L.length), IsS L[i] va.length (GvA va) (xs[i]'(by omega))) ∧ (∀ k, k < 3 → BitsL (f k) (va.getD k (0, [], 0)).2.1) ∧
       ((∃ i, strayP (nxt s va ra) (frs f va.length) 0 (xs ++ [xs[k]]) = some i ∧ c = 10 ∧ p = (i : Int)) ∨ (strayP (nxt s va ra) (frs f va.length) 0 (xs ++ [xs[k]]) = none ∧ c = 0 ∧ p = 0)))))

set_option maxRecDepth 100000 in
set_option maxHeartbeats 1600000 in
theorem run_any (s : ByteArray) (L : List ByteArray) (hL : ∀ s ∈ L, s.size ≤ maxLen) (loop : Int) (v : Value) (bL : Nat) (w : World) (hs : s.size ≤ maxLen) (h0w : 0 < w.heap.size) (hT : Tab w) (hrow : w.ownsRow bL 9 1 v L.length (bys L)) :
    Calls Tryd.prog 19 #[.string s, .agg #[v, .int .i64 loop]] w fun e w' => (∃ (c : Nat) (p : Int), e = .returned (.tuple #[.int .i64 c, .int .i64 p]) ∧ RunR s L loop c p) ∧ Below w.heap.size w w' := by
  obtain ⟨aoL, capL, rfl⟩ := owned_slice' hrow
  have hbx := heap_alloc_new w (.cells #[.slice aoL L.length capL, .int .i64 loop] 42)
  have hB1 : Below w.heap.size w (w.alloc (.cells #[.slice aoL L.length capL, .int .i64 loop] 42)) := (Below.refl _ _).alloc (Nat.le_refl _) _
  have h1w : 0 < (w.alloc (.cells #[.slice aoL L.length capL, .int .i64 loop] 42)).heap.size := by simp
  by_cases h0 : (rCheck s).1 = 0
  · obtain ⟨hle, hp0, va, ra, q', hq, hw⟩ := rcheck_good h0
    have H0 : Put (_ ∧ _) := ⟨h0, hq⟩
    have HG : Put (GoodA va ra) := ⟨goodA hq hw⟩
    have HR : Put (_) := ⟨gread h0 hle hq (w.alloc (.cells #[.slice aoL L.length capL, .int .i64 loop] 42))⟩
    have HBX : Put (_ ∧ _ ∧ _) := ⟨hbx, hB1, hrow⟩
    have HL : Put (_) := ⟨hL⟩
    clear hq hw hp0 h0 hbx hrow hL
    generalize hw0 : w.alloc (.cells #[.slice aoL L.length capL, .int .i64 loop] 42) = w0 at *
    have HW0 : Put (_ = w0) := ⟨hw0⟩
    have hlt0 := lt_of_block HBX.out.1
    go_enter Tryd.func19, Tryd.ntmps19
    go_wp2_with fail
    refine HR.out.mono ?_
    rintro e w1 ⟨M, f, ao, cap, N, vals, rfl, hR⟩
    have HRR : Put (_) := ⟨hR⟩
    have hlt := hR.hi
    have hbox1 := (hR.below.block _ hlt0).trans HBX.out.1
    have q0 := two_cell0 hbox1
    have q1 := two_cell1 hbox1
    have HBW : Put (Below w.heap.size w w1) := ⟨HBX.out.2.1.trans (hR.below.mono HBX.out.2.1.size)⟩
    have hlt1 := lt_of_block hbox1
    have HX1 : Put (_) := ⟨hbox1⟩
    clear hR HR hw0 HW0 hB1 hbox1
    go_wp2_with fail
    refine (lasso_any M va.length (GvA va) f HG.out.l3 (Gv_le HG.out) L HL.out loop _ bL w1 HRR.out.mc hlt (HBW.out.ownsRow' HBX.out.2.2)).mono ?_
    rintro e w2 ⟨hb2, hres⟩
    have HB2 : Put (Below w.heap.size w w2) := ⟨HBW.out.trans (hb2.mono HBW.out.size)⟩
    rcases hres with ⟨h7, rfl⟩ | ⟨h7, i, hi, hno, hok, rfl⟩ | ⟨h7, hok, hnl, rfl⟩ | ⟨h7, hl0, hl1, xs, v, hxl, hxs, hrow, rfl⟩
    · have FIN : Put (RunR s L loop 1 0) := ⟨.inr ⟨H0.out.1, va, ra, q', H0.out.2, HG.out, .inl ⟨h7, rfl, rfl⟩⟩⟩
      clear hb2 q0 q1
      go_wp2
      go_ret2
      exact ⟨⟨1, 0, rfl, FIN.out⟩, HB2.out⟩
    · have FIN : Put (RunR s L loop 8 (i : Int)) := ⟨.inr ⟨H0.out.1, va, ra, q', H0.out.2, HG.out, .inr (.inl ⟨h7, i, hi, hno, hok, rfl, rfl⟩)⟩⟩
      clear hb2 q0 q1 hno hok
      go_wp2
      go_ret2
      exact ⟨⟨8, _, rfl, FIN.out⟩, HB2.out⟩
    · have FIN : Put (RunR s L loop 9 0) := ⟨.inr ⟨H0.out.1, va, ra, q', H0.out.2, HG.out, .inr (.inr (.inl ⟨h7, hok, hnl, rfl, rfl⟩))⟩⟩
      clear hb2 q0 q1 hok
      go_wp2
      go_ret2
      exact ⟨⟨9, 0, rfl, FIN.out⟩, HB2.out⟩
    · obtain ⟨k, rfl⟩ : ∃ k : Nat, loop = (k : Int) := ⟨loop.toNat, by omega⟩
      have hk : k < xs.length := by omega
      have hx64 : ∀ y ∈ xs, y < 64 := fun y hy => by
        obtain ⟨j, hj, rfl⟩ := List.getElem_of_mem hy
        exact (hxs j (by omega)).1
      have q2 := (hb2.cell (p := ⟨w.heap.size, 1, none⟩) hlt1).trans q1
      have HS : Put (_) := ⟨stray_any (HRR.out.up hb2) HG.out (Nat.lt_of_lt_of_le (Nat.lt_of_lt_of_le h1w HRR.out.below.size) hb2.size) (hT.below HB2.out h0w) xs k v hx64 hk (by omega) w1.heap.size (HRR.out.below.size) hlt (by omega) hb2.size hrow⟩
      obtain ⟨aov, capv, rfl⟩ := owned_slice' hrow
      have HS' : Put (_) := ⟨by
        have h := HS.out
        have e : Value.slice aov xs.length capv = Value.slice aov L.length capv := by rw [hxl]
        rw [e] at h
        exact h⟩
      have HX : Put (_) := ⟨hxs⟩
      clear hrow hxs hx64 q0 q1
      go_wp2_with fail
      refine HS'.out.mono ?_
      rintro e w3 ⟨he, hb3⟩
      have HB3 : Put (Below w.heap.size w w3) := ⟨HB2.out.trans (hb3.mono (Nat.le_trans HBX.out.2.1.size HRR.out.below.size))⟩
      clear hb3 hb2 HS HS'
      cases hst : strayP (nxt s va ra) (frs f va.length) 0 (xs ++ [xs[k]]) with
      | some i =>
        rw [hst] at he
        have he' : e = _ := he
        unfold strayE at he'
        simp only at he'
        subst he'
        have FIN : Put (RunR s L (k : Int) 10 (i : Int)) := ⟨.inr ⟨H0.out.1, va, ra, q', H0.out.2, HG.out, .inr (.inr (.inr ⟨h7, k, rfl, xs, f, hxl, hk, HX.out, HRR.out.fb, .inl ⟨i, hst, rfl, rfl⟩⟩))⟩⟩
        clear hst
        go_wp2
        go_ret2
        exact ⟨⟨10, _, rfl, FIN.out⟩, HB3.out⟩
      | none =>
        rw [hst] at he
        have he' : e = _ := he
        unfold strayE at he'
        simp only at he'
        subst he'
        have FIN : Put (RunR s L (k : Int) 0 0) := ⟨.inr ⟨H0.out.1, va, ra, q', H0.out.2, HG.out, .inr (.inr (.inr ⟨h7, k, rfl, xs, f, hxl, hk, HX.out, HRR.out.fb, .inr ⟨hst, rfl, rfl⟩⟩))⟩⟩
        clear hst
        go_wp2
        go_ret2
        exact ⟨⟨0, 0, rfl, FIN.out⟩, HB3.out⟩
  · have hne : (((rCheck s).1 : Int) == 0) = false := by simp; exact h0
    have HCK : Put (_) := ⟨bread s (w.alloc (.cells #[.slice aoL L.length capL, .int .i64 loop] 42)) hs⟩
    have FIN : Put (RunR s L loop (rCheck s).1 (rCheck s).2) := ⟨.inl ⟨h0, rfl, rfl⟩⟩
    have HB1 : Put (_) := ⟨hB1⟩
    clear h0 hbx hrow hL hB1
    generalize (rCheck s).1 = a at *
    generalize (rCheck s).2 = b at *
    go_enter Tryd.func19, Tryd.ntmps19
    go_wp2_with fail
    refine HCK.out.mono ?_
    rintro e w1 ⟨⟨ao, rfl⟩, hb1⟩
    have HB : Put (Below w.heap.size w w1) := ⟨HB1.out.trans (hb1.mono HB1.out.size)⟩
    clear hb1 HCK
    go_wp2
    go_ret2
    exact ⟨⟨a, b, rfl, FIN.out⟩, HB.out⟩
end Go.Proofs.YtkbmolodljenjaaDoor

/- The document's has. Our own text. -/
namespace Go.Proofs.YtkbmolodljenjaaDoor
open Go.RowKit Go.Lib

def hasL (s : ByteArray) (l : List ByteArray) : Bool := l.any (fun t => t.toList == s.toList)
section
variable {w : World}
set_option maxRecDepth 100000 in
set_option maxHeartbeats 800000 in
theorem rhas_any (b1 : Nat) (va : Value) (l : List ByteArray) (s : ByteArray) (hl : l.length ≤ 9223372036854775807) (ha : w.ownsRow b1 9 1 va l.length (bys l)) :
    Calls Tryd.prog 37 #[va, .string s] w fun e w' => e = .returned (.bool (hasL s l)) ∧ Below w.heap.size w w' := by
  have HROW : Put (_) := ⟨ha⟩
  obtain ⟨ao, cap, rfl⟩ := owned_slice' ha
  obtain ⟨R, hR⟩ : ∃ R, R = hasL s l := ⟨_, rfl⟩
  rw [← hR]
  have HR : Put (R = hasL s l) := ⟨hR⟩
  clear ha hR
  go_enter Tryd.func37, Tryd.ntmps37
  go_wp2_with fail
  go_loopg [5] l.length (fun gk iv wr => ∃ i : Nat, iv = .int .i64 i ∧ i + gk = l.length ∧ wr = w ∧ R = hasL s (l.drop i))
  case atStart => exact ⟨0, rfl, by omega, rfl, by rw [List.drop_zero]; exact HR.out⟩
  case round =>
    clear HR
    obtain ⟨i, rfl, hik, rfl, hRi⟩ := hrel
    by_cases hlt : i < l.length
    · have hlt' : (i : Int) < (l.length : Int) := by omega
      have k0 : (0 : Int) ≤ (i : Int) := by omega
      obtain ⟨g', rfl⟩ : ∃ g', gk = g' + 1 := ⟨gk - 1, by omega⟩
      obtain ⟨g, cap', e, hg1, hg2, hg3, hcell⟩ := bys_at HROW.out (by omega)
      obtain ⟨rfl, rfl⟩ : ao = some ⟨g, 0, none⟩ ∧ cap = cap' := by simpa using e
      have q := hcell i hlt
      rw [List.drop_eq_getElem_cons hlt] at hRi
      generalize l[i] = t at *
      have HRi : Put (_ = _) := ⟨hRi⟩
      clear hRi hcell e
      cases h : (t.toList == s.toList) with
      | true =>
        have HT : Put (R = true) := ⟨by rw [HRi.out]; simp [hasL, h]⟩
        clear HRi
        go_wp2
        go_ret
        exact ⟨by rw [HT.out]; rfl, Below.refl _ _⟩
      | false =>
        have HT : Put (R = hasL s (l.drop (i + 1))) := ⟨by rw [HRi.out]; simp [hasL, h]⟩
        clear HRi
        go_wp2
        go_roundg g'
        case measure => exact Nat.lt_succ_self _
        case rel => exact ⟨i + 1, by go_num, by omega, rfl, HT.out⟩
    · obtain rfl : i = l.length := by omega
      have hlt' : ¬ ((l.length : Int) < (l.length : Int)) := by omega
      rw [List.drop_length] at hRi
      have HT : Put (R = false) := ⟨by rw [hRi]; rfl⟩
      clear hRi
      go_wp2
      go_ret
      exact ⟨by rw [HT.out]; rfl, Below.refl _ _⟩
end
end Go.Proofs.YtkbmolodljenjaaDoor

/- The law Firsts. Our own text. -/
namespace Go.Proofs.YtkbmolodljenjaaDoor
open Go.RowKit Go.Lib

theorem num8_any (e : Int) (w : World) : Calls Tryd.prog 10 #[.int .i64 e] w fun r w' => r = .returned (.int .i64 e) ∧ Below w.heap.size w w' := by
  go_enter Tryd.func10, Tryd.ntmps10
  go_wp2
  go_ret
  exact ⟨rfl, Below.refl _ _⟩
/-- What was spoilt lay above. -/
theorem ExV.below {b n : Nat} {v : Value} {w w' : World} {xs : List Value} (h : ExV v w w') (ho : w.ownsRow b 9 1 v n xs) (hbw : b ≤ w.heap.size) : Below b w w' := by
  obtain ⟨g, hg, hx, hn⟩ := h
  rcases ho.2 with ⟨rfl, _⟩ | ⟨g', cap, cur, rfl, hb, hg', _⟩
  · exact (hn rfl).mono hbw
  · rcases hg with hg | hg
    · simp [Value.ownBlock] at hg
    · have e : g' = g := by simpa [Value.ownBlock] using hg
      subst e
      exact hx.below hb (Nat.le_trans hb (Nat.le_of_lt (lt_of_block hg')))
theorem ExV.row {b b' n n' N : Nat} {v v' : Value} {w w' : World} {xs ys : List Value} (h : ExV v w w') (ho : w.ownsRow b 9 1 v n xs) (hlt : ∀ g, v.ownBlock = some g → g < N) (hN : N ≤ b') (hr : w.ownsRow b' 9 1 v' n' ys) : w'.ownsRow b' 9 1 v' n' ys := by
  obtain ⟨g, hg, hx, hn⟩ := h
  rcases ho.2 with ⟨rfl, _⟩ | ⟨g', cap, cur, rfl, hb, hg', _⟩
  · exact (hn rfl).ownsRow' hr
  · rcases hg with hg | hg
    · simp [Value.ownBlock] at hg
    · exact hx.ownsRow (by have := hlt g hg; omega) hr

set_option maxRecDepth 100000 in
set_option maxHeartbeats 1600000 in
theorem firsts_any (s : ByteArray) (w : World) (hs : s.size ≤ maxLen) (h0w : 0 < w.heap.size) (hT : Tab w) :
    Calls Tryd.prog 4 #[.string s] w fun e w' => e = .returned (.bool true) ∧ Below w.heap.size w w' := by
  have HF : ∀ w, 0 < w.heap.size → Tab w → _ := fun w h1 h2 => first9_any s w hs h1 h2
  have HRF := fun w => rfirst_any s w hs
  generalize (if (rCheck s).1 = 0 then refF s else []) = L at *
  generalize (rCheck s).1 = a at *
  generalize (rCheck s).2 = p at *
  have PF : Put (_) := ⟨HF⟩
  have PR : Put (_) := ⟨HRF⟩
  clear HF HRF
  go_enter Tryd.func4, Tryd.ntmps4
  go_wp2_with fail
  refine (PF.out w h0w hT).mono ?_
  rintro e w1 ⟨⟨vl, rfl, hl⟩, hb1⟩
  have hlen := own_len hl
  obtain ⟨aol, capl, rfl⟩ := owned_slice' hl
  have hlt := fun g h => (hl.lt g h).2
  have HLT : Put (∀ g, (Value.slice aol L.length capl).ownBlock = some g → g < w1.heap.size) := ⟨hlt⟩
  rw [strs_bys] at hl
  have HL : Put (_) := ⟨hl⟩
  clear hl hlt
  go_wp2_with fail
  refine (others_any w1 (Nat.lt_of_lt_of_le h0w hb1.size) (hT.below hb1 h0w)).mono ?_
  rintro e w2 ⟨rfl, hb2⟩
  have hB2 := hb1.trans (hb2.mono hb1.size)
  have HL2 : Put (_) := ⟨hb2.ownsRow' HL.out⟩
  have hw12 := hb2.size
  clear hb1 hb2
  go_wp2_with fail
  refine (PR.out w2).mono ?_
  rintro e w3 ⟨⟨vm, rfl, hm⟩, hb3⟩
  obtain ⟨aom, capm, rfl⟩ := owned_slice' hm
  rw [strs_bys] at hm
  have HMM : Put (_) := ⟨hm⟩
  have hB3 := hB2.trans (hb3.mono hB2.size)
  have HL3 : Put (_) := ⟨hb3.ownsRow' HL2.out⟩
  have hw23 := hb3.size
  clear hm hb3 hB2
  have hlm : (L.map txtL).length = L.length := List.length_map _
  have HSL : Put (_) := ⟨same_any (w := w3) w.heap.size w2.heap.size _ _ (L.map txtL) (by rw [hlm]; exact hlen) (by rw [hlm]; exact HL3.out) (by rw [hlm]; exact HMM.out)⟩
  go_wp2_with fail
  refine HSL.out.mono ?_
  rintro e w4 ⟨rfl, hb4⟩
  have hB4 := hB3.trans (hb4.mono hB3.size)
  have HL4 : Put (_) := ⟨hb4.ownsRow' HL3.out⟩
  have HM4 : Put (_) := ⟨hb4.ownsRow' HMM.out⟩
  clear hb4 hB3 HSL
  have HSP : Put (_) := ⟨spoil_any (w := w4) w.heap.size (.slice aol L.length capl) (bys (L.map txtL)) (by simpa [bys] using hlen) (by have := HL4.out; simpa [bys] using this)⟩
  go_wp2_with fail
  refine HSP.out.mono ?_
  rintro e w5 ⟨⟨v5, rfl⟩, hx5⟩
  have hb5 := hx5.below HL4.out hB4.size
  have HM5 : Put (_) := ⟨hx5.row HL4.out HLT.out hw12 HM4.out⟩
  have hB5 := hB4.trans hb5
  clear hx5 hb5 hB4 HSP
  go_wp2_with fail
  refine (PF.out w5 (Nat.lt_of_lt_of_le h0w hB5.size) (hT.below hB5 h0w)).mono ?_
  rintro e w6 ⟨⟨vk, rfl, hk⟩, hb6⟩
  obtain ⟨aok, capk, rfl⟩ := owned_slice' hk
  rw [strs_bys] at hk
  have HK : Put (_) := ⟨hk⟩
  have HM6 : Put (_) := ⟨hb6.ownsRow' HM5.out⟩
  have hB6 := hB5.trans (hb6.mono hB5.size)
  clear hk hb6 
  have HSK : Put (_) := ⟨same_any (w := w6) w5.heap.size w2.heap.size _ _ (L.map txtL) (by rw [hlm]; exact hlen) (by rw [hlm]; exact HK.out) (by rw [hlm]; exact HM6.out)⟩
  clear hB5
  go_wp2_with fail
  refine HSK.out.mono ?_
  rintro e w7 ⟨rfl, hb7⟩
  have hB7 := hB6.trans (hb7.mono hB6.size)
  clear hb7 HSK hB6
  go_wp2_with fail
  refine (num8_any a w7).mono ?_
  rintro e w8 ⟨rfl, hb8⟩
  have hB8 := hB7.trans (hb8.mono hB7.size)
  clear hb8 hB7
  go_wp2
  go_ret
  exact ⟨rfl, hB8⟩
end Go.Proofs.YtkbmolodljenjaaDoor

namespace Go.Proofs.YtkbmolodljenjaaDoor
open Go.RowKit Go.Lib

/-- What is answered of a model and a state. -/
def NAns (s st : ByteArray) (c : Nat) (p : Int) (L : List (List Nat)) : Prop :=
  ((rCheck s).1 ≠ 0 ∧ c = (rCheck s).1 ∧ p = (rCheck s).2 ∧ L = []) ∨
  ((rCheck s).1 = 0 ∧ p = 0 ∧ ∃ (va : List VA) (ra : List RA) (q' : Q), qRead s = (some (va, ra), q') ∧
    ((¬ OkS st va.length (GvA va) ∧ c = 8 ∧ L = []) ∨ (c = 0 ∧ ∃ x, IsS st va.length (GvA va) x ∧ L = nxL s va ra x)))
theorem IsS.ok {st : ByteArray} {n : Nat} {g : Nat → Nat} {x : Nat} (h : IsS st n g x) : OkS st n g :=
  ⟨h.2.1, fun k hk => by have := h.2.2.1 k hk; omega⟩
theorem IsS.uniq {st : ByteArray} {n : Nat} {g : Nat → Nat} {x y : Nat} (h : IsS st n g x) (h' : IsS st n g y) : x = y := by
  apply dig_ext h.1 h'.1
  intro j hj
  by_cases hl : j < n
  · have a := (h.2.2.1 j (by rw [h.2.1]; exact hl)).1
    have b := (h'.2.2.1 j (by rw [h.2.1]; exact hl)).1
    omega
  · rw [h.2.2.2 j (by omega) hj, h'.2.2.2 j (by omega) hj]
theorem NAns.uniq {s st : ByteArray} {c c' : Nat} {p p' : Int} {L L' : List (List Nat)} (h : NAns s st c p L) (h' : NAns s st c' p' L') : c' = c ∧ p' = p ∧ L' = L := by
  rcases h with ⟨h0, rfl, rfl, rfl⟩ | ⟨h0, rfl, va, ra, q, hq, h⟩
  · rcases h' with ⟨_, rfl, rfl, rfl⟩ | ⟨h1, _⟩
    · exact ⟨rfl, rfl, rfl⟩
    · exact absurd h1 h0
  · rcases h' with ⟨h1, _⟩ | ⟨_, rfl, va', ra', q', hq', h'⟩
    · exact absurd h0 h1
    · rw [hq] at hq'
      simp only [Prod.mk.injEq, Option.some.injEq] at hq'
      obtain ⟨⟨rfl, rfl⟩, _⟩ := hq'
      rcases h with ⟨hno, rfl, rfl⟩ | ⟨rfl, x, hx, rfl⟩
      · rcases h' with ⟨_, rfl, rfl⟩ | ⟨_, y, hy, _⟩
        · exact ⟨rfl, rfl, rfl⟩
        · exact absurd hy.ok hno
      · rcases h' with ⟨hno, _⟩ | ⟨rfl, y, hy, rfl⟩
        · exact absurd hx.ok hno
        · rw [hx.uniq hy]; exact ⟨rfl, rfl, rfl⟩

def AnsPost (s st : ByteArray) (w : World) (e : Ending) (w' : World) : Prop :=
  (∃ (ao : Option Addr) (cap c : Nat) (p : Int) (L : List (List Nat)), NAns s st c p L ∧ e = .returned (.tuple #[.slice ao L.length cap, .int .i64 c, .int .i64 p]) ∧ w'.ownsRow w.heap.size 9 1 (.slice ao L.length cap) L.length (strs L)) ∧ Below w.heap.size w w'
theorem next14_ans (s st : ByteArray) (w : World) (hs : s.size ≤ maxLen) (hst : st.size ≤ maxLen) (h0w : 0 < w.heap.size) (hT : Tab w) : Calls Tryd.prog 16 #[.string s, .string st] w (AnsPost s st w) := by
  refine (next14_any s st w hs hst h0w hT).mono ?_
  rintro e w' ⟨h, hb⟩
  refine ⟨?_, hb⟩
  rcases h with ⟨h0, rfl⟩ | ⟨h0, va, ra, q, hq, _, (⟨hno, rfl⟩ | ⟨x, v, hx, rfl, hrow⟩)⟩
  · exact ⟨none, 0, _, _, [], .inl ⟨h0, rfl, rfl, rfl⟩, rfl, World.ownsRow_nil _ _ _ _⟩
  · exact ⟨none, 0, 8, 0, [], .inr ⟨h0, rfl, va, ra, q, hq, .inl ⟨hno, rfl, rfl⟩⟩, rfl, World.ownsRow_nil _ _ _ _⟩
  · obtain ⟨ao, cap, rfl⟩ := owned_slice' hrow
    exact ⟨ao, cap, 0, 0, nxL s va ra x, .inr ⟨h0, rfl, va, ra, q, hq, .inr ⟨rfl, x, hx, rfl⟩⟩, rfl, hrow⟩

theorem Gv_top {va : List VA} (k : Nat) (h : k < (va.map (fun v => v.1)).length) : GvA va k = (va.map (fun v => v.1))[k] := by
  have h' : k < va.length := by simpa using h
  unfold GvA Gv
  rw [getD_v2]
  simp [List.getD, h', v2]
theorem okS_okT {st : ByteArray} {va : List VA} : OkS st va.length (GvA va) ↔ okT st (va.map (fun v => v.1)) := by
  constructor
  · rintro ⟨h1, h2⟩
    exact ⟨by rw [List.length_map]; exact h1, fun k hk hk' => by rw [← Gv_top k hk']; exact h2 k hk⟩
  · rintro ⟨h1, h2⟩
    rw [List.length_map] at h1
    exact ⟨h1, fun k hk => by have hk' : k < (va.map (fun v => v.1)).length := by rw [List.length_map]; omega
                              rw [Gv_top k hk']; exact h2 k hk hk'⟩
theorem exists_state {d : List Nat} (hd : d.length ≤ 3) (h3 : ∀ x ∈ d, x ≤ 3) : ∃ x, x < 64 ∧ (∀ k (h : k < d.length), dig x k = d[k]) ∧ ∀ k, d.length ≤ k → k < 3 → dig x k = 0 := by
  have key : ∀ a b c : _root_.Fin 4, ∃ x : _root_.Fin 64, dig x 0 = a ∧ dig x 1 = b ∧ dig x 2 = c := by decide +kernel
  obtain ⟨x, h0, h1, h2⟩ := key ⟨d.getD 0 0, by
    cases d with
    | nil => show 0 < 4; omega
    | cons a l => have := h3 a (by simp); show a < 4; omega⟩ ⟨d.getD 1 0, by
    match d, h3 with
    | [], _ => show 0 < 4; omega
    | [_], _ => show 0 < 4; omega
    | _ :: b :: _, h3 => have := h3 b (by simp); show b < 4; omega⟩ ⟨d.getD 2 0, by
    match d, h3 with
    | [], _ => show 0 < 4; omega
    | [_], _ => show 0 < 4; omega
    | [_, _], _ => show 0 < 4; omega
    | _ :: _ :: c :: _, h3 => have := h3 c (by simp); show c < 4; omega⟩
  have all : ∀ k, k < 3 → dig x k = d.getD k 0 := by
    intro k hk
    have : k = 0 ∨ k = 1 ∨ k = 2 := by omega
    rcases this with rfl | rfl | rfl
    · exact h0
    · exact h1
    · exact h2
  refine ⟨x, x.2, fun k hk => ?_, fun k hk hk3 => ?_⟩
  · rw [all k (by omega)]; simp [List.getD, hk]
  · rw [all k hk3]; simp [List.getD, List.getElem?_eq_none hk]

theorem rnext_ans (s st : ByteArray) (w : World) (hs : s.size ≤ maxLen) (hst : st.size ≤ maxLen) : Calls Tryd.prog 17 #[.string s, .string st] w (AnsPost s st w) := by
  refine (rnext_any s st w hs hst).mono ?_
  rintro e w' ⟨h, hb⟩
  refine ⟨?_, hb⟩
  rcases h with ⟨h0, rfl⟩ | ⟨h0, va, ra, q, hq, (⟨hno, rfl⟩ | ⟨d, rs, v, hok, hst, hdl, hdt, hra, hro, rfl, hrow⟩)⟩
  · exact ⟨none, 0, _, _, [], .inl ⟨h0, rfl, rfl, rfl⟩, rfl, World.ownsRow_nil _ _ _ _⟩
  · exact ⟨none, 0, 8, 0, [], .inr ⟨h0, rfl, va, ra, q, hq, .inl ⟨fun h => hno (okS_okT.1 h), rfl, rfl⟩⟩, rfl, World.ownsRow_nil _ _ _ _⟩
  · obtain ⟨_, _, va', ra', q2, hq2, hw⟩ := rcheck_good h0
    have hg := goodA hq2 hw
    rw [hq] at hq2
    simp only [Prod.mk.injEq, Option.some.injEq] at hq2
    obtain ⟨⟨rfl, rfl⟩, _⟩ := hq2
    have hd3 : ∀ x ∈ d, x ≤ 3 := by
      intro x hx
      obtain ⟨k, hk, rfl⟩ := List.mem_iff_getElem.1 hx
      have a := hdt k hk (by rw [List.length_map]; omega)
      rw [← Gv_top] at a
      exact Nat.le_trans a (Gv_le hg k)
    obtain ⟨x, hx, hxd, hx0⟩ := exists_state (by have := hg.l3; omega) hd3
    have hdig : digs va.length x = d := by
      apply List.ext_getElem
      · simp [digs, hdl]
      · intro k h1 h2
        rw [digs_get, hxd k h2]
    have hval : valid (va.map (fun v => v.1)) x = true := by
      rw [valid_iff _ (by rw [List.length_map]; exact hg.l3)]
      refine ⟨fun k hk => ?_, fun k hk h3 => hx0 k (by rw [hdl]; rw [List.length_map] at hk; exact hk) h3⟩
      rw [hxd k (by rw [List.length_map] at hk; omega)]
      exact hdt k _ hk
    have hns := nexts_same (s := s) (tops := va.map (fun v => v.1)) (G := GvA va) (rs := rs) (by rw [List.length_map]; exact hg.l1) (by rw [List.length_map]; exact hg.l3)
      (fun t ht => by obtain ⟨v, hv, rfl⟩ := List.mem_map.1 ht; exact (hg.v v hv).1) (fun k hk => Gv_top k hk) (fun r hr => by rw [List.length_map]; exact hro r hr) hx hval
    rw [List.length_map, hdig] at hns
    have hnl : nxL s va ra x = (allL (va.map (fun v => v.1))).filter (fun e => folF (va.map (fun v => v.1)) d e rs true) := by
      rw [← hns, hra]
      unfold nxL
      rw [List.map_map]
      rfl
    rw [← hnl] at hrow
    have hIs : IsS st va.length (GvA va) x := by
      have hsz : st.size = d.length := by rw [hst]; simp [txtL, ByteArray.size]
      refine ⟨hx, by omega, fun k hk => ?_, fun k hk h3 => hx0 k (by omega) h3⟩
      have hkd : k < d.length := by omega
      have hb : st[k].toNat = 48 + d[k] := by
        subst hst
        have e1 : (txtL d)[k] = UInt8.ofNat (48 + d[k]) := by simp [txtL, ByteArray.getElem_eq_getElem_data]
        rw [e1]
        have := hd3 d[k] (List.getElem_mem hkd)
        simp
        omega
      refine ⟨by rw [hb, hxd k hkd], ?_⟩
      rw [hxd k hkd]
      have := hdt k hkd (by rw [List.length_map]; omega)
      rw [← Gv_top] at this
      exact this
    obtain ⟨ao, cap, rfl⟩ := owned_slice' hrow
    exact ⟨ao, cap, 0, 0, nxL s va ra x, .inr ⟨h0, rfl, va, ra, q, hq, .inr ⟨rfl, x, hIs, rfl⟩⟩, rfl, hrow⟩

set_option maxRecDepth 100000 in
set_option maxHeartbeats 1600000 in
theorem nexts_any (s st : ByteArray) (w : World) (hs : s.size ≤ maxLen) (hst : st.size ≤ maxLen) (h0w : 0 < w.heap.size) (hT : Tab w) :
    Calls Tryd.prog 5 #[.string s, .string st] w fun e w' => e = .returned (.bool true) ∧ Below w.heap.size w w' := by
  have PF : Put (∀ w, 0 < w.heap.size → Tab w → Calls Tryd.prog 16 #[.string s, .string st] w (AnsPost s st w)) := ⟨fun w h1 h2 => next14_ans s st w hs hst h1 h2⟩
  have PR : Put (∀ w, Calls Tryd.prog 17 #[.string s, .string st] w (AnsPost s st w)) := ⟨fun w => rnext_ans s st w hs hst⟩
  go_enter Tryd.func5, Tryd.ntmps5
  go_wp2_with fail
  refine (PF.out w h0w hT).mono ?_
  rintro e w1 ⟨⟨aol, capl, a, p, L, hans, rfl, hl⟩, hb1⟩
  have HANS : Put (_) := ⟨hans⟩
  have hlen := own_len hl
  have hlt := fun g h => (hl.lt g h).2
  have HLT : Put (∀ g, (Value.slice aol L.length capl).ownBlock = some g → g < w1.heap.size) := ⟨hlt⟩
  rw [strs_bys] at hl
  have HL : Put (_) := ⟨hl⟩
  clear hl hlt hans
  go_wp2_with fail
  refine (others_any w1 (Nat.lt_of_lt_of_le h0w hb1.size) (hT.below hb1 h0w)).mono ?_
  rintro e w2 ⟨rfl, hb2⟩
  have hB2 := hb1.trans (hb2.mono hb1.size)
  have HL2 : Put (_) := ⟨hb2.ownsRow' HL.out⟩
  have hw12 := hb2.size
  clear hb1 hb2
  go_wp2_with fail
  refine (PR.out w2).mono ?_
  rintro e w3 ⟨⟨aom, capm, a', p', L', hans', rfl, hm⟩, hb3⟩
  obtain ⟨rfl, rfl, rfl⟩ := HANS.out.uniq hans'
  clear hans'
  rw [strs_bys] at hm
  have HMM : Put (_) := ⟨hm⟩
  have hB3 := hB2.trans (hb3.mono hB2.size)
  have HL3 : Put (_) := ⟨hb3.ownsRow' HL2.out⟩
  have hw23 := hb3.size
  clear hm hb3 hB2
  have hlm : (L'.map txtL).length = L'.length := List.length_map _
  have HSL : Put (_) := ⟨same_any (w := w3) w.heap.size w2.heap.size _ _ (L'.map txtL) (by rw [hlm]; exact hlen) (by rw [hlm]; exact HL3.out) (by rw [hlm]; exact HMM.out)⟩
  go_wp2_with fail
  refine HSL.out.mono ?_
  rintro e w4 ⟨rfl, hb4⟩
  have hB4 := hB3.trans (hb4.mono hB3.size)
  have HL4 : Put (_) := ⟨hb4.ownsRow' HL3.out⟩
  have HM4 : Put (_) := ⟨hb4.ownsRow' HMM.out⟩
  clear hb4 hB3 HSL
  have HSP : Put (_) := ⟨spoil_any (w := w4) w.heap.size (.slice aol L'.length capl) (bys (L'.map txtL)) (by simpa [bys] using hlen) (by have := HL4.out; simpa [bys] using this)⟩
  go_wp2_with fail
  refine HSP.out.mono ?_
  rintro e w5 ⟨⟨v5, rfl⟩, hx5⟩
  have hb5 := hx5.below HL4.out hB4.size
  have HM5 : Put (_) := ⟨hx5.row HL4.out HLT.out hw12 HM4.out⟩
  have hB5 := hB4.trans hb5
  clear hx5 hb5 hB4 HSP
  go_wp2_with fail
  refine (PF.out w5 (Nat.lt_of_lt_of_le h0w hB5.size) (hT.below hB5 h0w)).mono ?_
  rintro e w6 ⟨⟨aok, capk, a2, p2, L2, hans2, rfl, hk⟩, hb6⟩
  obtain ⟨rfl, rfl, rfl⟩ := HANS.out.uniq hans2
  clear hans2
  rw [strs_bys] at hk
  have HK : Put (_) := ⟨hk⟩
  have HM6 : Put (_) := ⟨hb6.ownsRow' HM5.out⟩
  have hB6 := hB5.trans (hb6.mono hB5.size)
  clear hk hb6
  have HSK : Put (_) := ⟨same_any (w := w6) w5.heap.size w2.heap.size _ _ (L2.map txtL) (by rw [hlm]; exact hlen) (by rw [hlm]; exact HK.out) (by rw [hlm]; exact HM6.out)⟩
  clear hB5
  go_wp2_with fail
  refine HSK.out.mono ?_
  rintro e w7 ⟨rfl, hb7⟩
  have hB7 := hB6.trans (hb7.mono hB6.size)
  clear hb7 HSK hB6
  go_wp2_with fail
  refine (num8_any a2 w7).mono ?_
  rintro e w8 ⟨rfl, hb8⟩
  have hB8 := hB7.trans (hb8.mono hB7.size)
  clear hb8 hB7
  go_wp2
  go_ret
  exact ⟨rfl, hB8⟩
end Go.Proofs.YtkbmolodljenjaaDoor
